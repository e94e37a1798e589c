/- Regular expressions, plain: trees made of trees, what is too great, and what a text is read as. -/
import Derived.Test.YtdognehkbahmdaaTree
namespace Go.Proofs.Ytdognehkbahmdaa.ere
open Go.RowKit Go.Proofs.Ytdognehkbahmdaa.sum Go.Proofs.Ytdognehkbahmdaa.kept Go.Proofs.Ytdognehkbahmdaa.pop Go.Proofs.Ytdognehkbahmdaa.cls Go.Proofs.Ytdognehkbahmdaa.tre
set_option linter.unusedVariables false

def leafT (k : Int) : Tr := .mk k nul []
def setT (f : Nat → Bool) : Tr := .mk 1 f []
def kid1 (k : Int) (t : Tr) : Tr := .mk k nul [t]
def kid2 (k : Int) (a b : Tr) : Tr := .mk k nul [a, b]
/-- the first one and, behind it, the others joined -/
def joinT (k : Int) : List Tr → Tr
  | [] => leafT 0
  | [t] => t
  | t :: u :: l => kid2 k t (joinT k (u :: l))
mutual
/-- how deep a tree goes -/
def highS : Tr → Nat
  | .mk k _ l => max 1 (highL k 0 l)
def highL (k : Int) : Nat → List Tr → Nat
  | _, [] => 0
  | i, t :: l => max (if sameB k i = true then highS t else highS t + 1) (highL k (i + 1) l)
end
def fitsB (t : Tr) : Bool := decide (setsS t ≤ 400) && decide (highS t ≤ 40)
/-- a part: the tree, its leaves, how deep it goes; one that is too great is over -/
structure Pt where
  t : Tr
  n : Nat
  h : Nat
def overP : Pt := ⟨leafT 0, 401, 41⟩
def absP (t : Tr) : Pt := if fitsB t = true then ⟨t, setsS t, highS t⟩ else overP
theorem absP_fits {t : Tr} (h : fitsB t = true) : absP t = ⟨t, setsS t, highS t⟩ := if_pos h
theorem absP_over {t : Tr} (h : fitsB t = false) : absP t = overP := if_neg (by rw [h]; simp)
theorem absP_n (t : Tr) : (absP t).n ≤ 401 := by
  unfold absP
  split
  · rename_i h
    unfold fitsB at h
    simp only [Bool.and_eq_true, decide_eq_true_eq] at h
    show setsS t ≤ 401
    omega
  · exact Nat.le_refl _
theorem absP_h (t : Tr) : (absP t).h ≤ 41 := by
  unfold absP
  split
  · rename_i h
    unfold fitsB at h
    simp only [Bool.and_eq_true, decide_eq_true_eq] at h
    show highS t ≤ 41
    omega
  · exact Nat.le_refl _
/-- it fits just when its leaves are not too many -/
theorem absP_iff (t : Tr) : (absP t).n ≤ 400 ↔ fitsB t = true := by
  unfold absP
  split
  · rename_i h
    have h2 := h
    unfold fitsB at h
    simp only [Bool.and_eq_true, decide_eq_true_eq] at h
    exact ⟨fun _ => h2, fun _ => h.1⟩
  · rename_i h
    exact ⟨fun e => absurd e (by decide), fun e => absurd e h⟩
theorem setsS_pos : ∀ t : Tr, 1 ≤ setsS t
  | .mk _ _ [] => Nat.le_refl _
  | .mk _ _ (t :: l) => by
    rw [setsS]
    have := setsS_pos t
    omega
theorem highS_pos (t : Tr) : 1 ≤ highS t := by
  obtain ⟨k, f, l⟩ := t
  rw [highS]
  omega
theorem absP_pos (t : Tr) : 1 ≤ (absP t).n := by
  unfold absP
  split
  · exact setsS_pos t
  · show 1 ≤ 401
    omega

/-- made of one, made of two: as the parts tell it -/
def onePt (k : Int) (p : Pt) : Pt := if p.n ≤ 400 ∧ p.h + 1 ≤ 40 then ⟨kid1 k p.t, p.n, p.h + 1⟩ else overP
def twoPt (k : Int) (p q : Pt) : Pt := if p.n + q.n ≤ 400 ∧ max (p.h + 1) q.h ≤ 40 then ⟨kid2 k p.t q.t, p.n + q.n, max (p.h + 1) q.h⟩ else overP
theorem sets1 (k : Int) (t : Tr) : setsS (kid1 k t) = setsS t := by simp [kid1, setsS, setsL]
theorem sets2 (k : Int) (a b : Tr) : setsS (kid2 k a b) = setsS a + setsS b := by simp [kid2, setsS, setsL]
theorem high1 (k : Int) (t : Tr) : highS (kid1 k t) = highS t + 1 := by
  unfold kid1
  rw [highS, highL, highL]
  have : sameB k 0 = false := by simp [sameB]
  rw [this, if_neg (by simp)]
  omega
theorem high2 (k : Int) (hk : k = 2 ∨ k = 3) (a b : Tr) : highS (kid2 k a b) = max (highS a + 1) (highS b) := by
  unfold kid2
  rw [highS, highL, highL, highL]
  have h0 : sameB k 0 = false := by simp [sameB]
  have h1 : sameB k 1 = true := by rcases hk with rfl | rfl <;> simp [sameB]
  rw [h0, h1, if_neg (by simp), if_pos rfl]
  omega
theorem abs1 (k : Int) (t : Tr) : absP (kid1 k t) = onePt k (absP t) := by
  by_cases h : fitsB t = true
  · rw [absP_fits h]
    unfold fitsB at h
    simp only [Bool.and_eq_true, decide_eq_true_eq] at h
    unfold onePt
    by_cases h2 : highS t + 1 ≤ 40
    · rw [if_pos ⟨h.1, h2⟩, absP_fits (by unfold fitsB; rw [sets1, high1]; simp; exact ⟨h.1, by omega⟩), sets1, high1]
    · rw [if_neg (fun e => h2 e.2), absP_over (by unfold fitsB; rw [sets1, high1]; simp; intro _; omega)]
  · have h' : fitsB t = false := by simpa using h
    rw [absP_over h', onePt, if_neg (fun e => absurd e.1 (by decide))]
    refine absP_over ?_
    unfold fitsB at h' ⊢
    rw [sets1, high1]
    simp only [Bool.and_eq_false_iff, decide_eq_false_iff_not] at h' ⊢
    omega
theorem abs2 (k : Int) (hk : k = 2 ∨ k = 3) (a b : Tr) : absP (kid2 k a b) = twoPt k (absP a) (absP b) := by
  by_cases ha : fitsB a = true
  · by_cases hb : fitsB b = true
    · rw [absP_fits ha, absP_fits hb]
      unfold twoPt
      by_cases h : setsS a + setsS b ≤ 400 ∧ max (highS a + 1) (highS b) ≤ 40
      · rw [if_pos h, absP_fits (by unfold fitsB; rw [sets2, high2 k hk]; simp; omega), sets2, high2 k hk]
      · rw [if_neg h, absP_over (by unfold fitsB; rw [sets2, high2 k hk]; simp only [Bool.and_eq_false_iff, decide_eq_false_iff_not]; omega)]
    · have h' : fitsB b = false := by simpa using hb
      rw [absP_over h', twoPt, if_neg (fun e => absurd e.1 (by show ¬ _ + 401 ≤ 400; omega))]
      refine absP_over ?_
      unfold fitsB at h' ⊢
      rw [sets2, high2 k hk]
      simp only [Bool.and_eq_false_iff, decide_eq_false_iff_not] at h' ⊢
      omega
  · have h' : fitsB a = false := by simpa using ha
    rw [absP_over h', twoPt, if_neg (fun e => absurd e.1 (by show ¬ 401 + _ ≤ 400; omega))]
    refine absP_over ?_
    unfold fitsB at h' ⊢
    rw [sets2, high2 k hk]
    simp only [Bool.and_eq_false_iff, decide_eq_false_iff_not] at h' ⊢
    omega

/-- all leaves of parts -/
def sumP : List Tr → Nat
  | [] => 0
  | t :: l => (absP t).n + sumP l
theorem sumP_append (l m : List Tr) : sumP (l ++ m) = sumP l + sumP m := by
  induction l with
  | nil => simp [sumP]
  | cons t l ih => simp only [List.cons_append, sumP, ih]; omega
theorem sumP_le (l : List Tr) : sumP l ≤ 401 * l.length := by
  induction l with
  | nil => simp [sumP]
  | cons t l ih => have := absP_n t; simp only [sumP, List.length_cons]; omega
theorem sumP_get : ∀ (l : List Tr) (i : Nat) (h : i < l.length), (absP l[i]).n ≤ sumP l
  | t :: l, 0, _ => by simp only [List.getElem_cons_zero, sumP]; omega
  | t :: l, i + 1, h => by
    have := sumP_get l i (by simpa using h)
    simp only [List.getElem_cons_succ, sumP]
    omega
theorem sumP_sets : ∀ l : List Tr, sumP l ≤ 400 → sumP l = setsL l
  | [], _ => rfl
  | t :: l, h => by
    simp only [sumP, setsL] at h ⊢
    rw [sumP_sets l (by omega)]
    have hf := (absP_iff t).1 (by omega)
    rw [absP_fits hf]
theorem setsJ (k : Int) : ∀ l : List Tr, l ≠ [] → setsS (joinT k l) = setsL l
  | [], h => absurd rfl h
  | [t], _ => by simp [joinT, setsL]
  | t :: u :: l, _ => by
    rw [joinT, sets2, setsJ k (u :: l) (by simp)]
    rfl
theorem join_ge (k : Int) (l : List Tr) (hl : l ≠ []) (h : sumP l ≤ 400) : sumP l ≤ (absP (joinT k l)).n := by
  unfold absP
  split
  · show _ ≤ setsS (joinT k l)
    rw [setsJ k l hl, sumP_sets l h]
    exact Nat.le_refl _
  · show _ ≤ 401
    omega
theorem join_over (k : Int) (hk : k = 2 ∨ k = 3) : ∀ l : List Tr, 400 < sumP l → absP (joinT k l) = overP
  | [], h => by simp [sumP] at h
  | [t], h => by
    simp only [sumP, Nat.add_zero] at h
    refine absP_over ?_
    rw [joinT]
    cases hf : fitsB t with
    | false => rfl
    | true => have := (absP_iff t).2 hf; omega
  | t :: u :: l, h => by
    rw [joinT, abs2 k hk, twoPt, if_neg]
    rintro ⟨h1, -⟩
    by_cases h2 : 400 < sumP (u :: l)
    · rw [join_over k hk (u :: l) h2] at h1
      exact absurd h1 (by show ¬ _ + 401 ≤ 400; omega)
    · have := join_ge k (u :: l) (by simp) (by omega)
      simp only [sumP] at h h2 this
      omega

/-- a byte at a place -/
abbrev atB (l : List UInt8) (k : Nat) : Nat := (l.getD k 0).toNat
/-- does a byte stand there that is among these? -/
def seesB (l : List UInt8) (k : Nat) (bs : List Nat) : Bool := decide (k < l.length) && bs.contains (atB l k)
def octB (l : List UInt8) (k : Nat) : Bool := decide (k < l.length) && decide (48 ≤ atB l k) && decide (atB l k ≤ 55)
def digB (l : List UInt8) (k : Nat) : Bool := decide (k < l.length) && decide (48 ≤ atB l k) && decide (atB l k ≤ 57)
/-- how many octal digits, up to three -/
def octN (l : List UInt8) (k : Nat) : Nat := if octB l k = true then (if octB l (k + 1) = true then (if octB l (k + 2) = true then 3 else 2) else 1) else 0
def octV (l : List UInt8) (k : Nat) : Nat → Nat
  | 0 => 0
  | j + 1 => (octV l k j * 8 + (atB l (k + j) - 48)) % 256
/-- how many decimal digits, up to two -/
def digN (l : List UInt8) (k : Nat) : Nat := if digB l k = true then (if digB l (k + 1) = true then 2 else 1) else 0
def digV (l : List UInt8) (k : Nat) : Nat → Nat
  | 0 => 0
  | j + 1 => digV l k j * 10 + (atB l (k + j) - 48)
def escS (b : Nat) : Nat := if b = 110 then 10 else if b = 116 then 9 else if b = 114 then 13 else if b = 102 then 12 else if b = 118 then 11 else if b = 97 then 7 else if b = 98 then 8 else b
/-- what stands behind a brace: least, most, whether there is no end, and the place behind it -/
def timesS (l : List UInt8) (k : Nat) : Option ((Nat × Nat × Bool) × Nat) :=
  let n := digN l k
  let m := digV l k n
  if n = 0 then none
  else if seesB l (k + n) [44] = true then
    if seesB l (k + n + 1) [125] = true then (if m ≤ 50 then some ((m, m, true), k + n + 2) else none)
    else
      let n2 := digN l (k + n + 1)
      let m2 := digV l (k + n + 1) n2
      if n2 = 0 then none
      else if seesB l (k + n + 1 + n2) [125] = true ∧ m ≤ m2 ∧ m2 ≤ 50 then some ((m, m2, false), k + n + 1 + n2 + 1) else none
  else if seesB l (k + n) [125] = true ∧ m ≤ 50 then some ((m, m, false), k + n + 1) else none
/-- so many in a row -/
def rowT (t : Tr) (x : Nat × Nat × Bool) : List Tr := List.replicate x.1 t ++ (if x.2.2 = true then [kid1 4 t] else List.replicate (x.2.1 - x.1) (kid1 6 t))
def againT (t : Tr) (x : Nat × Nat × Bool) : Tr := joinT 2 (rowT t x)

/-- what is read: a tree and the place behind it; else an error's number and its place -/
inductive Rs where
  | ok (t : Tr) (k : Nat)
  | bad (e k : Nat)
inductive Ls where
  | ok (ts : List Tr) (k : Nat)
  | bad (e k : Nat)
def Ls.join (k : Int) : Ls → Rs
  | .ok ts n => .ok (joinT k ts) n
  | .bad e n => .bad e n
def Ls.ahead (us : List Tr) : Ls → Ls
  | .ok ts n => .ok (us ++ ts) n
  | .bad e n => .bad e n
theorem Ls.ahead_nil (r : Ls) : r.ahead [] = r := by cases r <;> rfl
theorem Ls.ahead_ahead (us vs : List Tr) (r : Ls) : (r.ahead vs).ahead us = r.ahead (us ++ vs) := by cases r <;> simp [Ls.ahead]

/-- the signs behind an atom -/
def signsF (l : List UInt8) : Nat → Tr → Nat → Rs
  | 0, _, _ => .bad 0 0
  | n + 1, t, k =>
    if seesB l k [42, 43, 63, 123] = true then
      if atB l k = 42 then signsF l n (kid1 4 t) (k + 1)
      else if atB l k = 43 then signsF l n (kid1 5 t) (k + 1)
      else if atB l k = 63 then signsF l n (kid1 6 t) (k + 1)
      else match timesS l (k + 1) with
        | none => .bad 24 k
        | some (x, k') => signsF l n (againT t x) k'
    else .ok t k

section
variable (l : List UInt8) (bk : Nat → Option ((Nat → Bool) × Nat))
mutual
/-- rows with bars between; so many brackets are open -/
def altsF : Nat → Nat → Nat → Ls
  | 0, _, _ => .bad 0 0
  | n + 1, o, k => match rowF n o k with
    | .bad e k' => .bad e k'
    | .ok t k' => if seesB l k' [124] = true then (altsF n o (k' + 1)).ahead [t] else .ok [t] k'
def rowF : Nat → Nat → Nat → Rs
  | 0, _, _ => .bad 0 0
  | n + 1, o, k => (piecesF n o k).join 2
def piecesF : Nat → Nat → Nat → Ls
  | 0, _, _ => .bad 0 0
  | n + 1, o, k => match pieceF n o k with
    | .bad e k' => .bad e k'
    | .ok t k' => if k' = l.length ∨ seesB l k' [124, 41] = true then .ok [t] k' else (piecesF n o k').ahead [t]
def pieceF : Nat → Nat → Nat → Rs
  | 0, _, _ => .bad 0 0
  | n + 1, o, k => match atomF n o k with
    | .bad e k' => .bad e k'
    | .ok t k' => signsF l (l.length + 1) t k'
def atomF : Nat → Nat → Nat → Rs
  | 0, _, _ => .bad 0 0
  | n + 1, o, k =>
    if k = l.length ∨ seesB l k [42, 43, 63, 123, 124, 41] = true then .bad 24 k
    else if atB l k = 40 then
      if o = 10 then .bad 26 k
      else match (altsF n (o + 1) (k + 1)).join 3 with
        | .bad e k' => .bad e k'
        | .ok t k' => if seesB l k' [41] = true then .ok t (k' + 1) else .bad 24 k'
    else if atB l k = 91 then
      match bk (k + 1) with
      | none => .bad 24 k
      | some (f, k') => .ok (setT f) k'
    else if atB l k = 92 then
      if k + 1 = l.length then .bad 24 (k + 1)
      else if octN l (k + 1) = 0 then .ok (setT (ofL [(escS (atB l (k + 1))).toUInt8])) (k + 2)
      else .ok (setT (ofL [(octV l (k + 1) (octN l (k + 1))).toUInt8])) (k + 1 + octN l (k + 1))
    else if atB l k = 46 then .ok (setT fun x => !nul x) (k + 1)
    else if atB l k = 94 then .ok (leafT 7) (k + 1)
    else if atB l k = 36 then .ok (leafT 8) (k + 1)
    else .ok (setT (ofL [l.getD k 0])) (k + 1)
end
/-- what Parse tells: the tree, the place, the error -/
def parseS (n : Nat) : Tr × Nat × Nat :=
  if l = [] then (leafT 0, 0, 0)
  else match (altsF l bk n 0 0).join 3 with
    | .bad e k => (leafT 0, k, e)
    | .ok t k => if k < l.length then (leafT 0, k, 24) else if fitsB t = true then (t, 0, 0) else (leafT 0, 0, 24)
end

end Go.Proofs.Ytdognehkbahmdaa.ere
