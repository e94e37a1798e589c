/- Regular expressions, plain: trees made of trees, what is too great, and what a text is read as. Sets as 256 bools in memory, and by value; the reference's Packed and Plain. The reference's Plain: a set of words as 256 bools. The reference's One: the tree of one byte. A variable that holds a tree; trees made of one kid or two. -/
import Derived.Test.YtaneblecgjahbabBracket2M
import Derived.Test.YtaneblecgjahbabSetsM
import Derived.Deep.MidRow
import Derived.Deep.WholeRow
import Derived.Deep.CutRange

namespace Go.Proofs.Ytaneblecgjahbab.ere
open Go.RowKit Go.Proofs.Ytaneblecgjahbab.sum Go.Proofs.Ytaneblecgjahbab.kept Go.Proofs.Ytaneblecgjahbab.pop Go.Proofs.Ytaneblecgjahbab.cls Go.Proofs.Ytaneblecgjahbab.tre
set_option linter.unusedVariables false

def leafT (k : Int) : Tr := .mk k nul []
def setT (f : Nat → Bool) : Tr := .mk 1 f []
def kid1 (k : Int) (t : Tr) : Tr := .mk k nul [t]
def kid2 (k : Int) (a b : Tr) : Tr := .mk k nul [a, b]
/-- the first one and, behind it, the others joined -/
def joinT (k : Int) : List Tr → Tr
  | [] => leafT 0
  | [t] => t
  | t :: u :: l => kid2 k t (joinT k (u :: l))
mutual
/-- how deep a tree goes -/
def highS : Tr → Nat
  | .mk k _ l => max 1 (highL k 0 l)
def highL (k : Int) : Nat → List Tr → Nat
  | _, [] => 0
  | i, t :: l => max (if sameB k i = true then highS t else highS t + 1) (highL k (i + 1) l)
end
def fitsB (t : Tr) : Bool := decide (setsS t ≤ 400) && decide (highS t ≤ 40)
/-- a part: the tree, its leaves, how deep it goes; one that is too great is over -/
structure Pt where
  t : Tr
  n : Nat
  h : Nat
def overP : Pt := ⟨leafT 0, 401, 41⟩
def absP (t : Tr) : Pt := if fitsB t = true then ⟨t, setsS t, highS t⟩ else overP
theorem absP_fits {t : Tr} (h : fitsB t = true) : absP t = ⟨t, setsS t, highS t⟩ := if_pos h
theorem absP_over {t : Tr} (h : fitsB t = false) : absP t = overP := if_neg (by rw [h]; simp)
theorem absP_n (t : Tr) : (absP t).n ≤ 401 := by
  unfold absP
  split
  · rename_i h
    unfold fitsB at h
    simp only [Bool.and_eq_true, decide_eq_true_eq] at h
    show setsS t ≤ 401
    omega
  · exact Nat.le_refl _
theorem absP_h (t : Tr) : (absP t).h ≤ 41 := by
  unfold absP
  split
  · rename_i h
    unfold fitsB at h
    simp only [Bool.and_eq_true, decide_eq_true_eq] at h
    show highS t ≤ 41
    omega
  · exact Nat.le_refl _
/-- it fits just when its leaves are not too many -/
theorem absP_iff (t : Tr) : (absP t).n ≤ 400 ↔ fitsB t = true := by
  unfold absP
  split
  · rename_i h
    have h2 := h
    unfold fitsB at h
    simp only [Bool.and_eq_true, decide_eq_true_eq] at h
    exact ⟨fun _ => h2, fun _ => h.1⟩
  · rename_i h
    exact ⟨fun e => absurd e (by decide), fun e => absurd e h⟩
theorem setsS_pos : ∀ t : Tr, 1 ≤ setsS t
  | .mk _ _ [] => Nat.le_refl _
  | .mk _ _ (t :: l) => by
    rw [setsS]
    have := setsS_pos t
    omega
theorem highS_pos (t : Tr) : 1 ≤ highS t := by
  obtain ⟨k, f, l⟩ := t
  rw [highS]
  omega
theorem absP_pos (t : Tr) : 1 ≤ (absP t).n := by
  unfold absP
  split
  · exact setsS_pos t
  · show 1 ≤ 401
    omega

/-- made of one, made of two: as the parts tell it -/
def onePt (k : Int) (p : Pt) : Pt := if p.n ≤ 400 ∧ p.h + 1 ≤ 40 then ⟨kid1 k p.t, p.n, p.h + 1⟩ else overP
def twoPt (k : Int) (p q : Pt) : Pt := if p.n + q.n ≤ 400 ∧ max (p.h + 1) q.h ≤ 40 then ⟨kid2 k p.t q.t, p.n + q.n, max (p.h + 1) q.h⟩ else overP
theorem sets1 (k : Int) (t : Tr) : setsS (kid1 k t) = setsS t := by simp [kid1, setsS, setsL]
theorem sets2 (k : Int) (a b : Tr) : setsS (kid2 k a b) = setsS a + setsS b := by simp [kid2, setsS, setsL]
theorem high1 (k : Int) (t : Tr) : highS (kid1 k t) = highS t + 1 := by
  unfold kid1
  rw [highS, highL, highL]
  have : sameB k 0 = false := by simp [sameB]
  rw [this, if_neg (by simp)]
  omega
theorem high2 (k : Int) (hk : k = 2 ∨ k = 3) (a b : Tr) : highS (kid2 k a b) = max (highS a + 1) (highS b) := by
  unfold kid2
  rw [highS, highL, highL, highL]
  have h0 : sameB k 0 = false := by simp [sameB]
  have h1 : sameB k 1 = true := by rcases hk with rfl | rfl <;> simp [sameB]
  rw [h0, h1, if_neg (by simp), if_pos rfl]
  omega
theorem abs1 (k : Int) (t : Tr) : absP (kid1 k t) = onePt k (absP t) := by
  by_cases h : fitsB t = true
  · rw [absP_fits h]
    unfold fitsB at h
    simp only [Bool.and_eq_true, decide_eq_true_eq] at h
    unfold onePt
    by_cases h2 : highS t + 1 ≤ 40
    · rw [if_pos ⟨h.1, h2⟩, absP_fits (by unfold fitsB; rw [sets1, high1]; simp; exact ⟨h.1, by omega⟩), sets1, high1]
    · rw [if_neg (fun e => h2 e.2), absP_over (by unfold fitsB; rw [sets1, high1]; simp; intro _; omega)]
  · have h' : fitsB t = false := by simpa using h
    rw [absP_over h', onePt, if_neg (fun e => absurd e.1 (by decide))]
    refine absP_over ?_
    unfold fitsB at h' ⊢
    rw [sets1, high1]
    simp only [Bool.and_eq_false_iff, decide_eq_false_iff_not] at h' ⊢
    omega
theorem abs2 (k : Int) (hk : k = 2 ∨ k = 3) (a b : Tr) : absP (kid2 k a b) = twoPt k (absP a) (absP b) := by
  by_cases ha : fitsB a = true
  · by_cases hb : fitsB b = true
    · rw [absP_fits ha, absP_fits hb]
      unfold twoPt
      by_cases h : setsS a + setsS b ≤ 400 ∧ max (highS a + 1) (highS b) ≤ 40
      · rw [if_pos h, absP_fits (by unfold fitsB; rw [sets2, high2 k hk]; simp; omega), sets2, high2 k hk]
      · rw [if_neg h, absP_over (by unfold fitsB; rw [sets2, high2 k hk]; simp only [Bool.and_eq_false_iff, decide_eq_false_iff_not]; omega)]
    · have h' : fitsB b = false := by simpa using hb
      rw [absP_over h', twoPt, if_neg (fun e => absurd e.1 (by show ¬ _ + 401 ≤ 400; omega))]
      refine absP_over ?_
      unfold fitsB at h' ⊢
      rw [sets2, high2 k hk]
      simp only [Bool.and_eq_false_iff, decide_eq_false_iff_not] at h' ⊢
      omega
  · have h' : fitsB a = false := by simpa using ha
    rw [absP_over h', twoPt, if_neg (fun e => absurd e.1 (by show ¬ 401 + _ ≤ 400; omega))]
    refine absP_over ?_
    unfold fitsB at h' ⊢
    rw [sets2, high2 k hk]
    simp only [Bool.and_eq_false_iff, decide_eq_false_iff_not] at h' ⊢
    omega

/-- all leaves of parts -/
def sumP : List Tr → Nat
  | [] => 0
  | t :: l => (absP t).n + sumP l
theorem sumP_append (l m : List Tr) : sumP (l ++ m) = sumP l + sumP m := by
  induction l with
  | nil => simp [sumP]
  | cons t l ih => simp only [List.cons_append, sumP, ih]; omega
theorem sumP_le (l : List Tr) : sumP l ≤ 401 * l.length := by
  induction l with
  | nil => simp [sumP]
  | cons t l ih => have := absP_n t; simp only [sumP, List.length_cons]; omega
theorem sumP_get : ∀ (l : List Tr) (i : Nat) (h : i < l.length), (absP l[i]).n ≤ sumP l
  | t :: l, 0, _ => by simp only [List.getElem_cons_zero, sumP]; omega
  | t :: l, i + 1, h => by
    have := sumP_get l i (by simpa using h)
    simp only [List.getElem_cons_succ, sumP]
    omega
theorem sumP_sets : ∀ l : List Tr, sumP l ≤ 400 → sumP l = setsL l
  | [], _ => rfl
  | t :: l, h => by
    simp only [sumP, setsL] at h ⊢
    rw [sumP_sets l (by omega)]
    have hf := (absP_iff t).1 (by omega)
    rw [absP_fits hf]
theorem setsJ (k : Int) : ∀ l : List Tr, l ≠ [] → setsS (joinT k l) = setsL l
  | [], h => absurd rfl h
  | [t], _ => by simp [joinT, setsL]
  | t :: u :: l, _ => by
    rw [joinT, sets2, setsJ k (u :: l) (by simp)]
    rfl
theorem join_ge (k : Int) (l : List Tr) (hl : l ≠ []) (h : sumP l ≤ 400) : sumP l ≤ (absP (joinT k l)).n := by
  unfold absP
  split
  · show _ ≤ setsS (joinT k l)
    rw [setsJ k l hl, sumP_sets l h]
    exact Nat.le_refl _
  · show _ ≤ 401
    omega
theorem join_over (k : Int) (hk : k = 2 ∨ k = 3) : ∀ l : List Tr, 400 < sumP l → absP (joinT k l) = overP
  | [], h => by simp [sumP] at h
  | [t], h => by
    simp only [sumP, Nat.add_zero] at h
    refine absP_over ?_
    rw [joinT]
    cases hf : fitsB t with
    | false => rfl
    | true => have := (absP_iff t).2 hf; omega
  | t :: u :: l, h => by
    rw [joinT, abs2 k hk, twoPt, if_neg]
    rintro ⟨h1, -⟩
    by_cases h2 : 400 < sumP (u :: l)
    · rw [join_over k hk (u :: l) h2] at h1
      exact absurd h1 (by show ¬ _ + 401 ≤ 400; omega)
    · have := join_ge k (u :: l) (by simp) (by omega)
      simp only [sumP] at h h2 this
      omega

/-- a byte at a place -/
abbrev atB (l : List UInt8) (k : Nat) : Nat := (l.getD k 0).toNat
/-- does a byte stand there that is among these? -/
def seesB (l : List UInt8) (k : Nat) (bs : List Nat) : Bool := decide (k < l.length) && bs.contains (atB l k)
def octB (l : List UInt8) (k : Nat) : Bool := decide (k < l.length) && decide (48 ≤ atB l k) && decide (atB l k ≤ 55)
def digB (l : List UInt8) (k : Nat) : Bool := decide (k < l.length) && decide (48 ≤ atB l k) && decide (atB l k ≤ 57)
/-- how many octal digits, up to three -/
def octN (l : List UInt8) (k : Nat) : Nat := if octB l k = true then (if octB l (k + 1) = true then (if octB l (k + 2) = true then 3 else 2) else 1) else 0
def octV (l : List UInt8) (k : Nat) : Nat → Nat
  | 0 => 0
  | j + 1 => (octV l k j * 8 + (atB l (k + j) - 48)) % 256
/-- how many decimal digits, up to two -/
def digN (l : List UInt8) (k : Nat) : Nat := if digB l k = true then (if digB l (k + 1) = true then 2 else 1) else 0
def digV (l : List UInt8) (k : Nat) : Nat → Nat
  | 0 => 0
  | j + 1 => digV l k j * 10 + (atB l (k + j) - 48)
def escS (b : Nat) : Nat := if b = 110 then 10 else if b = 116 then 9 else if b = 114 then 13 else if b = 102 then 12 else if b = 118 then 11 else if b = 97 then 7 else if b = 98 then 8 else b
/-- what stands behind a brace: least, most, whether there is no end, and the place behind it -/
def timesS (l : List UInt8) (k : Nat) : Option ((Nat × Nat × Bool) × Nat) :=
  let n := digN l k
  let m := digV l k n
  if n = 0 then none
  else if seesB l (k + n) [44] = true then
    if seesB l (k + n + 1) [125] = true then (if m ≤ 50 then some ((m, m, true), k + n + 2) else none)
    else
      let n2 := digN l (k + n + 1)
      let m2 := digV l (k + n + 1) n2
      if n2 = 0 then none
      else if seesB l (k + n + 1 + n2) [125] = true ∧ m ≤ m2 ∧ m2 ≤ 50 then some ((m, m2, false), k + n + 1 + n2 + 1) else none
  else if seesB l (k + n) [125] = true ∧ m ≤ 50 then some ((m, m, false), k + n + 1) else none
/-- so many in a row -/
def rowT (t : Tr) (x : Nat × Nat × Bool) : List Tr := List.replicate x.1 t ++ (if x.2.2 = true then [kid1 4 t] else List.replicate (x.2.1 - x.1) (kid1 6 t))
def againT (t : Tr) (x : Nat × Nat × Bool) : Tr := joinT 2 (rowT t x)

/-- what is read: a tree and the place behind it; else an error's number and its place -/
inductive Rs where
  | ok (t : Tr) (k : Nat)
  | bad (e k : Nat)
inductive Ls where
  | ok (ts : List Tr) (k : Nat)
  | bad (e k : Nat)
def Ls.join (k : Int) : Ls → Rs
  | .ok ts n => .ok (joinT k ts) n
  | .bad e n => .bad e n
def Ls.ahead (us : List Tr) : Ls → Ls
  | .ok ts n => .ok (us ++ ts) n
  | .bad e n => .bad e n
theorem Ls.ahead_nil (r : Ls) : r.ahead [] = r := by cases r <;> rfl
theorem Ls.ahead_ahead (us vs : List Tr) (r : Ls) : (r.ahead vs).ahead us = r.ahead (us ++ vs) := by cases r <;> simp [Ls.ahead]

/-- the signs behind an atom -/
def signsF (l : List UInt8) : Nat → Tr → Nat → Rs
  | 0, _, _ => .bad 0 0
  | n + 1, t, k =>
    if seesB l k [42, 43, 63, 123] = true then
      if atB l k = 42 then signsF l n (kid1 4 t) (k + 1)
      else if atB l k = 43 then signsF l n (kid1 5 t) (k + 1)
      else if atB l k = 63 then signsF l n (kid1 6 t) (k + 1)
      else match timesS l (k + 1) with
        | none => .bad 24 k
        | some (x, k') => signsF l n (againT t x) k'
    else .ok t k

section
variable (l : List UInt8) (bk : Nat → Option ((Nat → Bool) × Nat))
mutual
/-- rows with bars between; so many brackets are open -/
def altsF : Nat → Nat → Nat → Ls
  | 0, _, _ => .bad 0 0
  | n + 1, o, k => match rowF n o k with
    | .bad e k' => .bad e k'
    | .ok t k' => if seesB l k' [124] = true then (altsF n o (k' + 1)).ahead [t] else .ok [t] k'
def rowF : Nat → Nat → Nat → Rs
  | 0, _, _ => .bad 0 0
  | n + 1, o, k => (piecesF n o k).join 2
def piecesF : Nat → Nat → Nat → Ls
  | 0, _, _ => .bad 0 0
  | n + 1, o, k => match pieceF n o k with
    | .bad e k' => .bad e k'
    | .ok t k' => if k' = l.length ∨ seesB l k' [124, 41] = true then .ok [t] k' else (piecesF n o k').ahead [t]
def pieceF : Nat → Nat → Nat → Rs
  | 0, _, _ => .bad 0 0
  | n + 1, o, k => match atomF n o k with
    | .bad e k' => .bad e k'
    | .ok t k' => signsF l (l.length + 1) t k'
def atomF : Nat → Nat → Nat → Rs
  | 0, _, _ => .bad 0 0
  | n + 1, o, k =>
    if k = l.length ∨ seesB l k [42, 43, 63, 123, 124, 41] = true then .bad 24 k
    else if atB l k = 40 then
      if o = 10 then .bad 26 k
      else match (altsF n (o + 1) (k + 1)).join 3 with
        | .bad e k' => .bad e k'
        | .ok t k' => if seesB l k' [41] = true then .ok t (k' + 1) else .bad 24 k'
    else if atB l k = 91 then
      match bk (k + 1) with
      | none => .bad 24 k
      | some (f, k') => .ok (setT f) k'
    else if atB l k = 92 then
      if k + 1 = l.length then .bad 24 (k + 1)
      else if octN l (k + 1) = 0 then .ok (setT (ofL [(escS (atB l (k + 1))).toUInt8])) (k + 2)
      else .ok (setT (ofL [(octV l (k + 1) (octN l (k + 1))).toUInt8])) (k + 1 + octN l (k + 1))
    else if atB l k = 46 then .ok (setT fun x => !nul x) (k + 1)
    else if atB l k = 94 then .ok (leafT 7) (k + 1)
    else if atB l k = 36 then .ok (leafT 8) (k + 1)
    else .ok (setT (ofL [l.getD k 0])) (k + 1)
end
/-- what Parse tells: the tree, the place, the error -/
def parseS (n : Nat) : Tr × Nat × Nat :=
  if l = [] then (leafT 0, 0, 0)
  else match (altsF l bk n 0 0).join 3 with
    | .bad e k => (leafT 0, k, e)
    | .ok t k => if k < l.length then (leafT 0, k, 24) else if fitsB t = true then (t, 0, 0) else (leafT 0, 0, 24)
end

end Go.Proofs.Ytaneblecgjahbab.ere

namespace Go.Proofs.Ytaneblecgjahbab.cls
open Go.RowKit Go.Proofs.Ytaneblecgjahbab.sum Go.Proofs.Ytaneblecgjahbab.kept Go.Proofs.Ytaneblecgjahbab.pop
set_option linter.unusedVariables false

/-- a set's 256 cells -/
def bc (f : Nat → Bool) : List Value := (List.range 256).map fun i => .bool (f i)
theorem bc_len (f : Nat → Bool) : (bc f).length = 256 := by simp [bc]
theorem bc_get (f : Nat → Bool) (j : Nat) (h : j < 256) : (bc f)[j]? = some (.bool (f j)) := by simp [bc, h]
theorem bc_one (f : Nat → Bool) : ∀ v ∈ bc f, v.oneCell' = true := by
  intro v hv
  unfold bc at hv
  obtain ⟨i, -, rfl⟩ := List.mem_map.1 hv
  rfl
/-- it by value -/
abbrev bv (f : Nat → Bool) : Value := .agg (bc f).toArray
/-- it in memory, where it may be written -/
structure BgAt (w : World) (q : Nat) (f : Nat → Bool) : Prop where
  cell : ∀ j, j < 256 → w.cell? ⟨q, j, none⟩ = some (.bool (f j))
  warm : ∀ j, w.frozen? ⟨q, j, none⟩ = false
theorem BgAt.lt {w : World} {q : Nat} {f : Nat → Bool} (h : BgAt w q f) : q < w.heap.size := World.block_lt_of_cell? w ⟨q, 0, none⟩ (h.cell 0 (by omega))
theorem BgAt.kept {S : Nat → Prop} {w w' : World} {q : Nat} {f : Nat → Bool} (h : BgAt w q f) (hk : Kp S w w') (hq : ¬ S q) : BgAt w' q f :=
  ⟨fun k h4 => hk.cell' (h.cell k h4) hq, fun j => (hk.frozen (p := ⟨q, j, none⟩) h.lt hq).trans (h.warm j)⟩
theorem BgAt.no {w w' : World} {q : Nat} {f : Nat → Bool} (h : BgAt w q f) (hk : Kp No w w') : BgAt w' q f := h.kept hk id
theorem BgAt.congr {w : World} {q : Nat} {f g : Nat → Bool} (h : BgAt w q f) (e : ∀ x, x < 256 → f x = g x) : BgAt w q g :=
  ⟨fun k h4 => by rw [h.cell k h4, e k h4], h.warm⟩
theorem BgAt.range {w : World} {q : Nat} {f : Nat → Bool} (h : BgAt w q f) : w.rangeAt q 0 (bc f) := fun j v hv => by
  have hj : j < 256 := by have := (List.getElem?_eq_some_iff.1 hv).1; rwa [bc_len] at this
  rw [bc_get f j hj] at hv
  cases hv
  rw [Nat.zero_add]
  exact h.cell j hj
theorem BgAt.there {w : World} {q : Nat} {f : Nat → Bool} (h : BgAt w q f) : w.there q 0 256 := fun j hj => by
  rw [Nat.zero_add]
  exact ⟨by rw [h.cell j hj]; rfl, h.warm j⟩
theorem BgAt.set {w : World} {q : Nat} {f g : Nat → Bool} (h : BgAt w q f) (k : Nat) (hk : k < 256) (e : ∀ x, x < 256 → x ≠ k → g x = f x) : BgAt (w.setCell ⟨q, k, none⟩ (.bool (g k))) q g := by
  refine ⟨fun i h4 => ?_, fun j => by simpa using h.warm j⟩
  by_cases hi : i = k
  · subst hi
    exact World.cell?_setCell_same w _ _ (h.cell i h4)
  · rw [World.cell?_setCell_other, h.cell i h4, e i h4 hi]
    simp only [ne_eq, Addr.mk.injEq, true_and, and_true]
    exact fun e => hi e.symm
theorem BgAt.made (w : World) (f : Nat → Bool) (t : TypeId) : BgAt (w.alloc (.cells (bc f).toArray t)) w.heap.size f :=
  ⟨fun j hj => by
    rw [show (w.alloc (.cells (bc f).toArray t)).cell? ⟨w.heap.size, j, none⟩ = (bc f).toArray[j]? from by simp, List.getElem?_toArray, bc_get f j hj], fun j => by simp⟩
theorem bc_nul : (bc nul).toArray = Array.replicate 256 (.bool false) := by
  apply Array.ext'
  rw [Array.toList_replicate]
  show (List.range 256).map (fun _ => Value.bool false) = _
  rw [List.map_const', List.length_range]
theorem BgAt.zero (w : World) (t : TypeId) : BgAt (w.alloc (.cells (Array.replicate 256 (.bool false)) t)) w.heap.size nul := by
  rw [← bc_nul]
  exact BgAt.made w nul t
theorem kp_setCells {S : Nat → Prop} {w0 : World} {q : Nat} (hq : q < w0.heap.size → S q) : ∀ (l : List Value) (o : Nat) {w : World}, Kp S w0 w → Kp S w0 (w.setCells q o l)
  | [], _, _, h => h
  | v :: l, o, w, h => by
    rw [World.setCells]
    exact kp_setCells hq l (o + 1) (h.setCell (p := ⟨q, o, none⟩) hq v)
theorem BgAt.puts {w : World} {q : Nat} {g : Nat → Bool} (h : BgAt w q g) (f : Nat → Bool) : BgAt (w.setCells q 0 (bc f)) q f :=
  ⟨fun j hj => by
    have := World.rangeAt_setCells_same w q 0 (bc f) (by rw [bc_len]; exact h.there) j _ (bc_get f j hj)
    rwa [Nat.zero_add] at this, fun j => by rw [World.frozen?_setCells]; exact h.warm j⟩

theorem zero36 : (∀ w, (zeroValue 68).run Try.prog w = .ok (.agg (Array.replicate 256 (.bool false))) w) ∧ (Try.prog.info? 68).map (·.size) = some 256 :=
  zero_of_info (by kernel_rfl)
theorem info_bc (f : Nat → Bool) : (Try.prog.info? 68).map (·.size) = some (bc f).length := by rw [bc_len]; exact zero36.2
theorem info_bca (f : Nat → Bool) : (Try.prog.info? 68).map (·.size) = some (bc f).toArray.size := by rw [List.size_toArray]; exact info_bc f

/-- what of it lies below k -/
def upTo (f : Nat → Bool) (k : Nat) : Nat → Bool := fun x => decide (x < k) && f x
theorem upTo_all (f : Nat → Bool) (x : Nat) (h : x < 256) : upTo f 256 x = f x := by simp [upTo, h]
def PkRel (w : World) (q : Nat) (f : Nat → Bool) (i : Value) (wr : World) : Prop :=
  ∃ k : Nat, k ≤ 256 ∧ i = .int .i64 (k : Int) ∧ SetAt wr q (upTo f k) ∧ Kp (fun b => b = q) w wr

set_option maxRecDepth 100000 in
theorem packed_any (w : World) (f : Nat → Bool) :
    Calls Try.prog 30 #[bv f] w fun e w' => e = .returned (sv f) ∧ Kp No w w' := by
  have hb := BgAt.made w f 68
  unfold bv
  generalize (bc f).toArray = A at hb
  obtain ⟨W0, hW0⟩ : ∃ W0, ((w.alloc (.cells A 68)).alloc (.cells #[.int .u64 0, .int .u64 0, .int .u64 0, .int .u64 0] 27)).alloc (.cells #[.int .u64 0, .int .u64 0, .int .u64 0, .int .u64 0] 27) = W0 := ⟨_, rfl⟩
  have HK0 : Hid (Kp No w W0) := Hid_mk (by rw [← hW0]; exact (((Kp.refl No w).alloc _).alloc _).alloc _)
  have HB0 : Hid (BgAt W0 w.heap.size f) := Hid_mk (by rw [← hW0]; exact hb.no (((Kp.refl No _).alloc _).alloc _))
  have HZ1 : Hid (SetAt W0 (w.heap.size + 1) nul) := Hid_mk (by
    rw [← hW0]
    have := (SetAt.zero (w.alloc (.cells A 68))).no ((Kp.refl No _).alloc (.cells #[.int .u64 0, .int .u64 0, .int .u64 0, .int .u64 0] 27))
    simpa using this)
  have HZ2 : Hid (SetAt W0 (w.heap.size + 1 + 1) nul) := Hid_mk (by
    rw [← hW0]
    have := SetAt.zero ((w.alloc (.cells A 68)).alloc (.cells #[.int .u64 0, .int .u64 0, .int .u64 0, .int .u64 0] 27))
    simpa using this)
  have HW0 := Hid_mk hW0
  clear hW0 hb
  go_enter Try.func30, Try.ntmps30
  go_wp2
  rw [HW0.out]
  clear HW0
  obtain ⟨q, hq⟩ : ∃ q, w.heap.size = q := ⟨_, rfl⟩
  rw [hq] at HB0 HZ1 HZ2
  go_loopw [4] (fun i wr => PkRel W0 (q + 1 + 1) f i wr) (fun i _ => 256 - (intOf i).toNat)
  case atStart => exact ⟨0, by omega, rfl, HZ2.out.congr fun x _ => by simp [nul, upTo], Kp.refl _ _⟩
  case round =>
    obtain ⟨k, hk, rfl, hs, hkp⟩ := hrel
    have HS := Hid_mk hs
    have HKp := Hid_mk hkp
    have hk0 : (0 : Int) ≤ (k : Int) := Int.natCast_nonneg _
    by_cases hlt : k < 256
    · have hki : (k : Int) < 256 := by omega
      have hwi : IntKind.i64.wrap ((k : Int) + 1) = (k : Int) + 1 := IntWalk.i64_in _ (by omega)
      have hc := (HB0.out.kept hkp (by rw [← hq]; omega)).cell k hlt
      have hlow : ∀ x, x ≠ k → upTo f (k + 1) x = upTo f k x := fun x hx => by
        unfold upTo
        rw [Bool.eq_iff_iff]
        simp only [Bool.and_eq_true, decide_eq_true_eq]
        constructor <;> intro ⟨a, b⟩ <;> exact ⟨by omega, b⟩
      cases hf : f k with
      | false =>
        rw [hf] at hc
        have HST := Hid_mk (hs.congr (g := upTo f (k + 1)) fun x _ => by
          by_cases hx : x = k
          · subst hx; simp [upTo, hf]
          · exact (hlow x hx).symm)
        clear hs hkp hf hlow
        go_wp2
        go_roundw
        case rel => exact ⟨k + 1, by omega, by push_cast; rfl, HST.out, HKp.out⟩
        case measure => simp only [intOf]; omega
      | true =>
        rw [hf] at hc
        obtain ⟨p, hp⟩ : ∃ p, k / 64 = p := ⟨_, rfl⟩
        obtain ⟨r, hr⟩ : ∃ r, k % 64 = r := ⟨_, rfl⟩
        have hp4 : p < 4 := by omega
        have hr64 : r < 64 := by omega
        have hpi : (k : Int).tdiv 64 = (p : Int) := by rw [Int.tdiv_eq_ediv_of_nonneg hk0]; omega
        have hri : (k : Int).tmod 64 = (r : Int) := by rw [Int.tmod_eq_emod_of_nonneg hk0]; omega
        have hwp : IntKind.i64.wrap (p : Int) = (p : Int) := IntWalk.i64_in _ (by omega)
        have hwr : IntKind.u64.wrap (r : Int) = (r : Int) := wrap_u64_in r (by omega)
        have hr0 : (0 : Int) ≤ (r : Int) := Int.natCast_nonneg _
        have hp0 : (0 : Int) ≤ (p : Int) := Int.natCast_nonneg _
        have hpi4 : (p : Int) < 4 := by omega
        have hcs := hs.cell p hp4
        have hwm := hs.warm p
        have hsh := word_shl r hr64
        have hor := word_or (wd (upTo f k) (64 * p) 64) (2 ^ r) (wd_le _ _) (Nat.pow_lt_pow_right (by decide) hr64)
        have ht : wd (upTo f k) (64 * p) 64 ||| 2 ^ r = wd (upTo f (k + 1)) (64 * p) 64 := by
          rw [set_wd _ _ _ hr64, show 64 * p + r = k from by omega]
          refine wd_congr fun j hj => ?_
          by_cases hx : 64 * p + j = k
          · rw [hx]; simp [upTo, hf]
          · rw [hlow _ hx]; simp [hx]
        rw [ht] at hor
        generalize 2 ^ r = T at hsh hor
        have HST := Hid_mk (hs.set (g := upTo f (k + 1)) p hp4 fun x hx h => hlow x (by omega))
        clear ht hs hkp hp hr hf hlow
        go_wp2
        go_roundw
        case rel => exact ⟨k + 1, by omega, by push_cast; rfl, HST.out, HKp.out.setCell (p := ⟨q + 1 + 1, p, none⟩) (fun _ => rfl) _⟩
        case measure => simp only [intOf]; omega
    · obtain rfl : k = 256 := by omega
      obtain ⟨c0, c1, c2, c3⟩ := (hs.congr (upTo_all f)).cells
      obtain ⟨z0, z1, z2, z3⟩ := (HZ1.out.kept hkp (by omega)).cells
      have zw := (HZ1.out.kept hkp (by omega)).warm
      have hres := (HZ1.out.kept hkp (by omega)).puts f
      obtain ⟨WR, hWR⟩ : ∃ WR, (((wr.setCell ⟨q + 1, 0, none⟩ (.int .u64 (wd f 0 64 : Nat))).setCell ⟨q + 1, 1, none⟩ (.int .u64 (wd f 64 64 : Nat))).setCell ⟨q + 1, 2, none⟩ (.int .u64 (wd f 128 64 : Nat))).setCell ⟨q + 1, 3, none⟩ (.int .u64 (wd f 192 64 : Nat)) = WR := ⟨_, rfl⟩
      have HKR : Hid (Kp No w (putS wr (q + 1) f)) := Hid_mk (kp_puts (HK0.out.trans hkp fun i hi e => by omega) (fun h => by omega) _)
      unfold putS at hres HKR
      rw [hWR] at hres HKR
      have HR := Hid_mk hres
      have HWR := Hid_mk hWR
      clear hres hWR hs hkp HS HKp
      go_wp2
      try rw [hq]
      rw [HWR.out]
      obtain ⟨r0, r1, r2, r3⟩ := HR.out.cells
      clear c0 c1 c2 c3 z0 z1 z2 z3 zw HWR
      refine bodyPost_ret (v := sv f) ?_ rfl ⟨rfl, HKR.out⟩
      simp [results, Try.results30, go_sem, r0, r1, r2, r3, sv]

end Go.Proofs.Ytaneblecgjahbab.cls

namespace Go.Proofs.Ytaneblecgjahbab.cls
open Go.RowKit Go.Proofs.Ytaneblecgjahbab.sum Go.Proofs.Ytaneblecgjahbab.kept Go.Proofs.Ytaneblecgjahbab.pop
set_option linter.unusedVariables false

theorem results_cell1 {fn : Func} {p : Tmp} {ty : TypeId} (h : fn.results = #[.cell p ty]) (tmps : Array Value) (P : Program) (w : World) :
    (results fn tmps).run P w = ((asAddr (tmps.getD p undef)).run P w).andThen fun a w₁ => (loadVar ty a).run P w₁ := by
  simp only [results, h]
  simp [Sem.run_bind, Result.andThen]
def PnRel (w : World) (q : Nat) (f : Nat → Bool) (i : Value) (wr : World) : Prop :=
  ∃ k : Nat, k ≤ 256 ∧ i = .int .i64 (k : Int) ∧ BgAt wr q (upTo f k) ∧ Kp (fun b => b = q) w wr
theorem cells_sv (w : World) (f : Nat → Bool) : SetAt (w.alloc (.cells #[.int .u64 (wd f 0 64 : Nat), .int .u64 (wd f 64 64 : Nat), .int .u64 (wd f 128 64 : Nat), .int .u64 (wd f 192 64 : Nat)] 27)) w.heap.size f := SetAt.made w f

set_option maxRecDepth 100000 in
theorem plain_any (w : World) (f : Nat → Bool) :
    Calls Try.prog 73 #[sv f] w fun e w' => e = .returned (bv f) ∧ Kp No w w' := by
  obtain ⟨W0, hW0⟩ : ∃ W0, ((w.alloc (.cells #[.int .u64 (wd f 0 64 : Nat), .int .u64 (wd f 64 64 : Nat), .int .u64 (wd f 128 64 : Nat), .int .u64 (wd f 192 64 : Nat)] 27)).alloc (.cells (Array.replicate 256 (.bool false)) 68)).alloc (.cells (Array.replicate 256 (.bool false)) 68) = W0 := ⟨_, rfl⟩
  have HK0 : Hid (Kp No w W0) := Hid_mk (by rw [← hW0]; exact (((Kp.refl No w).alloc _).alloc _).alloc _)
  have HS0 : Hid (SetAt W0 w.heap.size f) := Hid_mk (by rw [← hW0]; exact (SetAt.made w f).no (((Kp.refl No _).alloc _).alloc _))
  have HZ1 : Hid (BgAt W0 (w.heap.size + 1) nul) := Hid_mk (by
    rw [← hW0]
    have := (BgAt.zero (w.alloc (.cells #[.int .u64 (wd f 0 64 : Nat), .int .u64 (wd f 64 64 : Nat), .int .u64 (wd f 128 64 : Nat), .int .u64 (wd f 192 64 : Nat)] 27)) 68).no ((Kp.refl No _).alloc (.cells (Array.replicate 256 (.bool false)) 68))
    simpa using this)
  have HZ2 : Hid (BgAt W0 (w.heap.size + 1 + 1) nul) := Hid_mk (by
    rw [← hW0]
    have := BgAt.zero ((w.alloc (.cells #[.int .u64 (wd f 0 64 : Nat), .int .u64 (wd f 64 64 : Nat), .int .u64 (wd f 128 64 : Nat), .int .u64 (wd f 192 64 : Nat)] 27)).alloc (.cells (Array.replicate 256 (.bool false)) 68)) 68
    simpa using this)
  have HW0 := Hid_mk hW0
  have zv := zero36.1
  generalize Array.replicate 256 (Value.bool false) = Z at zv HW0
  clear hW0
  rw [svd f]
  go_enter Try.func73, Try.ntmps73
  go_wp2
  rw [HW0.out]
  clear HW0
  obtain ⟨q, hq⟩ : ∃ q, w.heap.size = q := ⟨_, rfl⟩
  rw [hq] at HS0 HZ1 HZ2
  go_loopw [4] (fun i wr => PnRel W0 (q + 1 + 1) f i wr) (fun i _ => 256 - (intOf i).toNat)
  case atStart => exact ⟨0, by omega, rfl, HZ2.out.congr fun x _ => by simp [nul, upTo], Kp.refl _ _⟩
  case round =>
    obtain ⟨k, hk, rfl, hs, hkp⟩ := hrel
    have HS := Hid_mk hs
    have HKp := Hid_mk hkp
    have hk0 : (0 : Int) ≤ (k : Int) := Int.natCast_nonneg _
    by_cases hlt : k < 256
    · have hki : (k : Int) < 256 := by omega
      have hwi : IntKind.i64.wrap ((k : Int) + 1) = (k : Int) + 1 := IntWalk.i64_in _ (by omega)
      obtain ⟨p, hp⟩ : ∃ p, k / 64 = p := ⟨_, rfl⟩
      obtain ⟨r, hr⟩ : ∃ r, k % 64 = r := ⟨_, rfl⟩
      have hp4 : p < 4 := by omega
      have hr64 : r < 64 := by omega
      have hpi : (k : Int).tdiv 64 = (p : Int) := by rw [Int.tdiv_eq_ediv_of_nonneg hk0]; omega
      have hri : (k : Int).tmod 64 = (r : Int) := by rw [Int.tmod_eq_emod_of_nonneg hk0]; omega
      have hwp : IntKind.i64.wrap (p : Int) = (p : Int) := IntWalk.i64_in _ (by omega)
      have hwr : IntKind.u64.wrap (r : Int) = (r : Int) := wrap_u64_in r (by omega)
      have hr0 : (0 : Int) ≤ (r : Int) := Int.natCast_nonneg _
      have hp0 : (0 : Int) ≤ (p : Int) := Int.natCast_nonneg _
      have hpi4 : (p : Int) < 4 := by omega
      have hcs := (HS0.out.kept hkp (by omega)).cell p hp4
      have hfb := has_wd f (64 * p) r hr64
      rw [show 64 * p + r = k from by omega] at hfb
      have hx := wd_le f (64 * p)
      generalize wd f (64 * p) 64 = x at hcs hfb hx
      have hv : (((x : Int) / 2 ^ r).tmod 2 == 1) = f k := by
        have e0 : (x : Int) / 2 ^ r = ((x / 2 ^ r : Nat) : Int) := by push_cast; rfl
        have e1 : ((x : Int) / 2 ^ r).tmod 2 = ((x / 2 ^ r % 2 : Nat) : Int) := by rw [e0, Int.tmod_eq_emod_of_nonneg (Int.natCast_nonneg _)]; push_cast; rfl
        rw [e1, hfb]
        cases f k <;> rfl
      have hcq := hs.cell k hlt
      have hwm := hs.warm k
      have hg : upTo f (k + 1) k = f k := by simp [upTo]
      have HST := Hid_mk (hs.set (g := upTo f (k + 1)) k hlt fun x hx h => by
        unfold upTo
        rw [Bool.eq_iff_iff]
        simp only [Bool.and_eq_true, decide_eq_true_eq]
        constructor <;> intro ⟨a, b⟩ <;> exact ⟨by omega, b⟩)
      rw [hg] at HST
      clear hs hkp hp hr hfb hx hg
      go_wp2
      go_roundw
      case rel => exact ⟨k + 1, by omega, by push_cast; rfl, HST.out, HKp.out.setCell (p := ⟨q + 1 + 1, k, none⟩) (fun _ => rfl) _⟩
      case measure => simp only [intOf]; omega
    · obtain rfl : k = 256 := by omega
      have h1 := hs.congr (upTo_all f)
      have h2 := HZ1.out.kept hkp (by omega)
      have hres := h2.puts f
      have hkr := kp_setCells (w0 := w) (S := No) (q := q + 1) (fun h => by omega) (bc f) 0 (HK0.out.trans hkp fun i hi e => by omega)
      have H1 := Hid_mk h1.range
      have H2 := Hid_mk (show wr.there (q + 1) 0 (bc f).toArray.size by rw [List.size_toArray, bc_len]; exact h2.there)
      have HRes := Hid_mk hres
      have HKr := Hid_mk hkr
      clear hs hkp HS HKp h1 h2 hres hkr HZ1 HZ2 HS0 HK0
      subst hq
      go_upto_region 6 with fail
      refine wp_region_lit ?_
      refine wpList_load_mid rfl _ _ rfl (w.heap.size + 1 + 1) 0 rfl (bc f) _ H1.out Try.underlying68 rfl (info_bc f) ?_
      simp only [Act.put, List.setIfInBounds_toArray, List.set_cons_zero, List.set_cons_succ]
      refine wpList_store_mid rfl _ _ _ rfl (w.heap.size + 1) 0 (bc f).toArray rfl rfl H2.out (info_bca f) (all_oneCell_toArray (bc_one f)) ?_
      simp only [Act.put, List.setIfInBounds_toArray, List.set_cons_zero, List.set_cons_succ]
      go_wp2
      (try simp only [Exit.inBlock, Exit.then])
      refine bodyPost_ret (v := bv f) ?_ rfl ⟨rfl, HKr.out⟩
      rw [results_cell1 rfl]
      have hld := run_loadVar_mid (P := Try.prog) _ (w.heap.size + 1) 0 68 (bc f) _ HRes.out.range Try.underlying68 rfl (info_bc f)
      simp [asAddr, Result.andThen, hld]

end Go.Proofs.Ytaneblecgjahbab.cls

namespace Go.Proofs.Ytaneblecgjahbab.tre
open Go.RowKit Go.Proofs.Ytaneblecgjahbab.sum Go.Proofs.Ytaneblecgjahbab.kept Go.Proofs.Ytaneblecgjahbab.pop Go.Proofs.Ytaneblecgjahbab.cls
set_option linter.unusedVariables false

/-- one byte's set -/
def oneS (b : Nat) : Nat → Bool := fun x => x == b
/-- the tree of one byte -/
def oneT (b : Nat) : Tr := .mk 1 (oneS b) []

set_option maxRecDepth 100000 in
set_option maxHeartbeats 1000000 in
theorem one_any (w : World) (b : Nat) (hb : b < 256) :
    Calls Try.prog 29 #[.int .u8 (b : Int)] w fun e w' => e = .returned (.agg (cellsR 1 (oneS b) none 0 0)) ∧ Kp No w w' := by
  obtain ⟨W0, hW0⟩ : ∃ W0, (w.alloc (.cells #[.int .i64 0, .int .u64 0, .int .u64 0, .int .u64 0, .int .u64 0, .slice none 0 0] 30)).alloc (.cells (Array.replicate 256 (.bool false)) 68) = W0 := ⟨_, rfl⟩
  obtain ⟨q, hq⟩ : ∃ q, w.heap.size = q := ⟨_, rfl⟩
  have HK0 : Kp No w W0 := by rw [← hW0]; exact ((Kp.refl No w).alloc _).alloc _
  have x : ∀ i u, (#[.int .i64 0, .int .u64 0, .int .u64 0, .int .u64 0, .int .u64 0, .slice none 0 0] : Array Value)[i]? = some u → W0.cell? ⟨q, i, none⟩ = some u := fun i u h => by
    rw [← hW0, ← hq]
    refine ((Kp.refl No _).alloc _).cell' ?_ id
    simpa using h
  have xw : ∀ i, W0.frozen? ⟨q, i, none⟩ = false := fun i => by rw [← hW0, ← hq]; simp
  have hz : BgAt W0 (q + 1) nul := by
    rw [← hW0, ← hq]
    have := BgAt.zero (w.alloc (.cells #[.int .i64 0, .int .u64 0, .int .u64 0, .int .u64 0, .int .u64 0, .slice none 0 0] 30)) 68
    simpa using this
  have hc := hz.cell b hb
  have hw := hz.warm b
  have h1 := hz.set (g := oneS b) b hb fun x _ hx => by simp [oneS, nul, hx]
  rw [show oneS b b = true from by simp [oneS]] at h1
  have hk1 : Kp (fun k => k = q + 1) W0 (W0.setCell ⟨q + 1, b, none⟩ (.bool true)) := (Kp.refl (fun k => k = q + 1) W0).setCell (p := ⟨q + 1, b, none⟩) (fun _ => rfl) _
  have hql : q < W0.heap.size := World.block_lt_of_cell? W0 ⟨q, 0, none⟩ (x 0 _ rfl)
  obtain ⟨W1, hW1⟩ : ∃ W1, W0.setCell ⟨q + 1, b, none⟩ (.bool true) = W1 := ⟨_, rfl⟩
  rw [hW1] at h1 hk1
  have HKw : Hid (Kp No w W1) := Hid_mk (HK0.trans hk1 fun i hi e => by omega)
  have HB1 := Hid_mk h1
  have HX : Hid (∀ W2, Kp No W1 W2 → (W2.cell? ⟨q, 0, none⟩ = some (.int .i64 0) ∧ W2.cell? ⟨q, 1, none⟩ = some (.int .u64 0) ∧ W2.cell? ⟨q, 2, none⟩ = some (.int .u64 0) ∧ W2.cell? ⟨q, 3, none⟩ = some (.int .u64 0) ∧ W2.cell? ⟨q, 4, none⟩ = some (.int .u64 0) ∧ W2.cell? ⟨q, 5, none⟩ = some (.slice none 0 0)) ∧ ∀ i, W2.frozen? ⟨q, i, none⟩ = false) := Hid_mk fun W2 hk =>
    ⟨⟨hk.cell' (hk1.cell' (x 0 _ rfl) (by show ¬ q = q + 1; omega)) id, hk.cell' (hk1.cell' (x 1 _ rfl) (by show ¬ q = q + 1; omega)) id, hk.cell' (hk1.cell' (x 2 _ rfl) (by show ¬ q = q + 1; omega)) id, hk.cell' (hk1.cell' (x 3 _ rfl) (by show ¬ q = q + 1; omega)) id, hk.cell' (hk1.cell' (x 4 _ rfl) (by show ¬ q = q + 1; omega)) id, hk.cell' (hk1.cell' (x 5 _ rfl) (by show ¬ q = q + 1; omega)) id⟩,
      fun i => (hk.frozen (p := ⟨q, i, none⟩) (Nat.lt_of_lt_of_le hql hk1.size) id).trans ((hk1.frozen (p := ⟨q, i, none⟩) hql (by show ¬ q = q + 1; omega)).trans (xw i))⟩
  have HW0 := Hid_mk hW0
  have HW1 := Hid_mk hW1
  have HQ := Hid_mk hq
  have zv := zero36.1
  generalize Array.replicate 256 (Value.bool false) = Z at zv HW0
  have hb0 : (0 : Int) ≤ (b : Int) := Int.natCast_nonneg _
  have hbi : (b : Int) < 256 := by omega
  have HPk := Hid_mk fun W => packed_any W (oneS b)
  clear hW0 hW1 hz h1 hk1 x xw hql HK0 hq
  go_enter Try.func29, Try.ntmps29
  go_upto_region 2 with fail
  rw [HW0.out, HQ.out]
  clear HW0
  go_upto_region 3 with fail
  rw [HW1.out]
  clear HW1 hc hw
  refine wp_region_lit ?_
  refine wpList_load_mid rfl _ _ rfl (q + 1) 0 rfl (bc (oneS b)) _ HB1.out.range Try.underlying68 rfl (info_bc (oneS b)) ?_
  simp only [Act.put, List.setIfInBounds_toArray, List.set_cons_zero, List.set_cons_succ]
  go_wp2_with fail
  with_reducible refine (HPk.out _).mono ?_
  rintro e w2 ⟨rfl, k2⟩
  obtain ⟨⟨c0, c1, c2, c3, c4, c5⟩, cw⟩ := HX.out w2 k2
  have HK2 := Hid_mk (HKw.out.trans' k2)
  clear k2
  go_wp2
  have hqn : q < w.heap.size → No q := fun h => by have := HQ.out; omega
  refine bodyPost_ret (v := .agg (cellsR 1 (oneS b) none 0 0)) ?_ rfl ⟨rfl, ((((((HK2.out.setCell (p := ⟨q, 0, none⟩) hqn _).setCell (p := ⟨q, 1, none⟩) hqn _).setCell (p := ⟨q, 2, none⟩) hqn _).setCell (p := ⟨q, 3, none⟩) hqn _).setCell (p := ⟨q, 4, none⟩) hqn _).setCell (p := ⟨q, 5, none⟩) hqn _)⟩
  simp [results, Try.results29, go_sem, c0, c1, c2, c3, c4, c5, cellsR]

end Go.Proofs.Ytaneblecgjahbab.tre

namespace Go.Proofs.Ytaneblecgjahbab.tre
open Go.RowKit Go.Proofs.Ytaneblecgjahbab.sum Go.Proofs.Ytaneblecgjahbab.kept Go.Proofs.Ytaneblecgjahbab.pop Go.Proofs.Ytaneblecgjahbab.cls
set_option linter.unusedVariables false

/-- a variable at block q holds the tree; its kids lie elsewhere -/
structure BoxAt (w : World) (q : Nat) (t : Tr) (k : Int) (f : Nat → Bool) (a : Option Addr) (n c : Nat) : Prop where
  cell : ∀ i u, (cellsR k f a n c)[i]? = some u → w.cell? ⟨q, i, none⟩ = some u
  warm : ∀ i, w.frozen? ⟨q, i, none⟩ = false
  val : ReV (fun x => x ≠ q) w t (.agg (cellsR k f a n c))
theorem BoxAt.lt {w : World} {q : Nat} {t : Tr} {k : Int} {f : Nat → Bool} {a : Option Addr} {n c : Nat} (h : BoxAt w q t k f a n c) : q < w.heap.size := World.block_lt_of_cell? w ⟨q, 0, none⟩ (h.cell 0 _ rfl)
theorem BoxAt.no {w w' : World} {q : Nat} {t : Tr} {k : Int} {f : Nat → Bool} {a : Option Addr} {n c : Nat} (h : BoxAt w q t k f a n c) (hk : Kp No w w') : BoxAt w' q t k f a n c :=
  ⟨fun i u e => hk.cell' (h.cell i u e) id, fun i => (hk.frozen (p := ⟨q, i, none⟩) h.lt id).trans (h.warm i), ReV.no hk t _ h.val⟩
theorem BoxAt.cells {w : World} {q : Nat} {t : Tr} {k : Int} {f : Nat → Bool} {a : Option Addr} {n c : Nat} (h : BoxAt w q t k f a n c) :
    w.cell? ⟨q, 0, none⟩ = some (.int .i64 k) ∧ w.cell? ⟨q, 1, none⟩ = some (.int .u64 (wd f 0 64 : Nat)) ∧ w.cell? ⟨q, 2, none⟩ = some (.int .u64 (wd f 64 64 : Nat)) ∧ w.cell? ⟨q, 3, none⟩ = some (.int .u64 (wd f 128 64 : Nat)) ∧ w.cell? ⟨q, 4, none⟩ = some (.int .u64 (wd f 192 64 : Nat)) ∧ w.cell? ⟨q, 5, none⟩ = some (.slice a n c) :=
  ⟨h.cell 0 _ rfl, h.cell 1 _ rfl, h.cell 2 _ rfl, h.cell 3 _ rfl, h.cell 4 _ rfl, h.cell 5 _ rfl⟩
/-- six cells are stored -/
abbrev putR (w : World) (q : Nat) (x0 x1 x2 x3 x4 x5 : Value) : World := (((((w.setCell ⟨q, 0, none⟩ x0).setCell ⟨q, 1, none⟩ x1).setCell ⟨q, 2, none⟩ x2).setCell ⟨q, 3, none⟩ x3).setCell ⟨q, 4, none⟩ x4).setCell ⟨q, 5, none⟩ x5
theorem kp_putR {S : Nat → Prop} {w0 w : World} (h : Kp S w0 w) {q : Nat} (hq : q < w0.heap.size → S q) (x0 x1 x2 x3 x4 x5 : Value) : Kp S w0 (putR w q x0 x1 x2 x3 x4 x5) :=
  (((((h.setCell (p := ⟨q, 0, none⟩) hq _).setCell (p := ⟨q, 1, none⟩) hq _).setCell (p := ⟨q, 2, none⟩) hq _).setCell (p := ⟨q, 3, none⟩) hq _).setCell (p := ⟨q, 4, none⟩) hq _).setCell (p := ⟨q, 5, none⟩) hq _
theorem BoxAt.put {w : World} {q : Nat} {t t' : Tr} {k k' : Int} {f f' : Nat → Bool} {a a' : Option Addr} {n c n' c' : Nat} (h : BoxAt w q t k f a n c) (hv : ReV (fun x => x ≠ q) w t' (.agg (cellsR k' f' a' n' c'))) :
    BoxAt (putR w q (.int .i64 k') (.int .u64 (wd f' 0 64 : Nat)) (.int .u64 (wd f' 64 64 : Nat)) (.int .u64 (wd f' 128 64 : Nat)) (.int .u64 (wd f' 192 64 : Nat)) (.slice a' n' c')) q t' k' f' a' n' c' := by
  have hk : Kp (fun x => x = q) w (putR w q (.int .i64 k') (.int .u64 (wd f' 0 64 : Nat)) (.int .u64 (wd f' 64 64 : Nat)) (.int .u64 (wd f' 128 64 : Nat)) (.int .u64 (wd f' 192 64 : Nat)) (.slice a' n' c')) := kp_putR (Kp.refl (fun x => x = q) w) (fun _ => rfl) _ _ _ _ _ _
  refine ⟨fun i u e => ?_, fun i => by unfold putR; simp only [World.frozen?_setCell]; exact h.warm i, ReV.kept hk (fun b hb _ => hb) t' _ hv⟩
  have c0 := h.cell 0 _ rfl
  have c1 := h.cell 1 _ rfl
  have c2 := h.cell 2 _ rfl
  have c3 := h.cell 3 _ rfl
  have c4 := h.cell 4 _ rfl
  have c5 := h.cell 5 _ rfl
  have hi : i < 6 := by
    have := (Array.getElem?_eq_some_iff.1 e).1
    simpa using this
  have : i = 0 ∨ i = 1 ∨ i = 2 ∨ i = 3 ∨ i = 4 ∨ i = 5 := by omega
  rcases this with rfl | rfl | rfl | rfl | rfl | rfl
  · have e0 : (.int .i64 k' : Value) = u := Option.some.inj e
    subst e0
    unfold putR
    rw [World.cell?_setCell_other _ _ _ _ (by intro e; cases e), World.cell?_setCell_other _ _ _ _ (by intro e; cases e), World.cell?_setCell_other _ _ _ _ (by intro e; cases e), World.cell?_setCell_other _ _ _ _ (by intro e; cases e), World.cell?_setCell_other _ _ _ _ (by intro e; cases e)]
    exact World.cell?_setCell_same _ _ _ (by exact c0)
  · have e0 : (.int .u64 (wd f' 0 64 : Nat) : Value) = u := Option.some.inj e
    subst e0
    unfold putR
    rw [World.cell?_setCell_other _ _ _ _ (by intro e; cases e), World.cell?_setCell_other _ _ _ _ (by intro e; cases e), World.cell?_setCell_other _ _ _ _ (by intro e; cases e), World.cell?_setCell_other _ _ _ _ (by intro e; cases e)]
    exact World.cell?_setCell_same _ _ _ (by rw [World.cell?_setCell_other _ _ _ _ (by intro e; cases e)]; exact c1)
  · have e0 : (.int .u64 (wd f' 64 64 : Nat) : Value) = u := Option.some.inj e
    subst e0
    unfold putR
    rw [World.cell?_setCell_other _ _ _ _ (by intro e; cases e), World.cell?_setCell_other _ _ _ _ (by intro e; cases e), World.cell?_setCell_other _ _ _ _ (by intro e; cases e)]
    exact World.cell?_setCell_same _ _ _ (by rw [World.cell?_setCell_other _ _ _ _ (by intro e; cases e), World.cell?_setCell_other _ _ _ _ (by intro e; cases e)]; exact c2)
  · have e0 : (.int .u64 (wd f' 128 64 : Nat) : Value) = u := Option.some.inj e
    subst e0
    unfold putR
    rw [World.cell?_setCell_other _ _ _ _ (by intro e; cases e), World.cell?_setCell_other _ _ _ _ (by intro e; cases e)]
    exact World.cell?_setCell_same _ _ _ (by rw [World.cell?_setCell_other _ _ _ _ (by intro e; cases e), World.cell?_setCell_other _ _ _ _ (by intro e; cases e), World.cell?_setCell_other _ _ _ _ (by intro e; cases e)]; exact c3)
  · have e0 : (.int .u64 (wd f' 192 64 : Nat) : Value) = u := Option.some.inj e
    subst e0
    unfold putR
    rw [World.cell?_setCell_other _ _ _ _ (by intro e; cases e)]
    exact World.cell?_setCell_same _ _ _ (by rw [World.cell?_setCell_other _ _ _ _ (by intro e; cases e), World.cell?_setCell_other _ _ _ _ (by intro e; cases e), World.cell?_setCell_other _ _ _ _ (by intro e; cases e), World.cell?_setCell_other _ _ _ _ (by intro e; cases e)]; exact c4)
  · have e0 : (.slice a' n' c' : Value) = u := Option.some.inj e
    subst e0
    unfold putR
    exact World.cell?_setCell_same _ _ _ (by rw [World.cell?_setCell_other _ _ _ _ (by intro e; cases e), World.cell?_setCell_other _ _ _ _ (by intro e; cases e), World.cell?_setCell_other _ _ _ _ (by intro e; cases e), World.cell?_setCell_other _ _ _ _ (by intro e; cases e), World.cell?_setCell_other _ _ _ _ (by intro e; cases e)]; exact c5)
/-- one kid, in a block of its own -/
theorem made1 {T : Nat → Prop} {w : World} {t : Tr} {k : Int} {f : Nat → Bool} {a : Option Addr} {n c : Nat} (hv : ReV T w t (.agg (cellsR k f a n c))) (hT : T w.heap.size) (K : Int) (F : Nat → Bool) (ty : TypeId) :
    ReV T (w.alloc (.cells (cellsR k f a n c) ty)) (.mk K F [t]) (.agg (cellsR K F (some ⟨w.heap.size, 0, none⟩) 1 1)) :=
  ⟨_, 1, rfl, Nat.le_refl _, by decide, fun _ => ⟨w.heap.size, 0, rfl, ⟨hT, by simp⟩, ⟨_, _, _, _, _, _, by simp, by simp, by simp, by simp, by simp, by simp, ReV.no ((Kp.refl No w).alloc _) t _ hv⟩, trivial⟩⟩
/-- two kids -/
theorem made2 {T : Nat → Prop} {w : World} {t t' : Tr} {k k' : Int} {f f' : Nat → Bool} {a a' : Option Addr} {n c n' c' : Nat} (hv : ReV T w t (.agg (cellsR k f a n c))) (hv' : ReV T w t' (.agg (cellsR k' f' a' n' c'))) (hT : T w.heap.size) (K : Int) (F : Nat → Bool) (ty : TypeId) :
    ReV T (w.alloc (.cells (cellsR k f a n c ++ cellsR k' f' a' n' c') ty)) (.mk K F [t, t']) (.agg (cellsR K F (some ⟨w.heap.size, 0, none⟩) 2 2)) :=
  ⟨_, 2, rfl, Nat.le_refl _, by decide, fun _ => ⟨w.heap.size, 0, rfl, ⟨hT, by simp⟩, ⟨_, _, _, _, _, _, by simp, by simp, by simp, by simp, by simp, by simp, ReV.no ((Kp.refl No w).alloc _) t _ hv⟩,
    ⟨_, _, _, _, _, _, by simp, by simp, by simp, by simp, by simp, by simp, ReV.no ((Kp.refl No w).alloc _) t' _ hv'⟩, trivial⟩⟩

end Go.Proofs.Ytaneblecgjahbab.tre
