/- Files by their names, in plain lists that rise by the names; what is done to them; the bytes of all of them. No program is named here. The reference's files, as they are read, and find. The reference's without. The reference's with. Files in memory: a map of slices of bytes; no two of them lie in one row. What is looked up, stored, deleted. -/
import Derived.Maps.Ext
import Derived.Test.YtmehneicdklfeaaBaseM
import Derived.Maps.AppendAt
import Derived.Deep.AppendLies
import Derived.Deep.RegionHeld3
import Derived.Maps.OwnSet
import Derived.Maps.RangeWalk

namespace Go.Proofs.Ytmehneicdklfeaa.fs
open Go.WideShapes
set_option linter.unusedVariables false

abbrev Name := List UInt8
abbrev Files := List (Name × List UInt8)

def bef (a b : Name) : Bool := (Lit.string a).before (.string b)
theorem bef_irrefl (a : Name) : bef a a = false := before_irrefl _
theorem bef_trans {a b c : Name} (h : bef a b = true) (k : bef b c = true) : bef a c = true := before_trans h k
theorem bef_total {a b : Name} (h : a ≠ b) : bef a b = true ∨ bef b a = true := Go.ChangeMaps.before_total ⟨a, rfl⟩ ⟨b, rfl⟩ (by intro e; cases e; exact h rfl)
theorem bef_ne {a b : Name} (h : bef a b = true) : a ≠ b := by rintro rfl; rw [bef_irrefl] at h; cases h

def Rising (es : Files) : Prop := es.Pairwise (fun p q => bef p.1 q.1 = true)
theorem rising_nil : Rising [] := List.Pairwise.nil
theorem Rising.apart {es : Files} (h : Rising es) : es.Pairwise (fun p q => p.1 ≠ q.1) := h.imp fun hb => bef_ne hb

theorem eq_of_mem : ∀ {l m : Files}, Rising l → Rising m → (∀ p, p ∈ l ↔ p ∈ m) → l = m
  | [], [], _, _, _ => rfl
  | [], b :: s, _, _, h => by have := (h b).2 (by simp); simp at this
  | a :: r, [], _, _, h => by have := (h a).1 (by simp); simp at this
  | a :: r, b :: s, h1, h2, h => by
    obtain ⟨a1, a2⟩ := List.pairwise_cons.1 h1
    obtain ⟨b1, b2⟩ := List.pairwise_cons.1 h2
    have hab : a = b := by
      rcases List.mem_cons.1 ((h a).1 (by simp)) with e | ha
      · exact e
      · rcases List.mem_cons.1 ((h b).2 (by simp)) with e | hb
        · exact e.symm
        · have := bef_trans (a1 b hb) (b1 a ha)
          rw [bef_irrefl] at this
          cases this
    subst hab
    rw [eq_of_mem a2 b2 (fun p => ⟨fun hp => by
      rcases List.mem_cons.1 ((h p).1 (by simp [hp])) with e | hp'
      · have := a1 p hp
        rw [e, bef_irrefl] at this
        cases this
      · exact hp', fun hp => by
      rcases List.mem_cons.1 ((h p).2 (by simp [hp])) with e | hp'
      · have := b1 p hp
        rw [e, bef_irrefl] at this
        cases this
      · exact hp'⟩)]

def ins (x : Name × List UInt8) : Files → Files
  | [] => [x]
  | y :: r => if bef x.1 y.1 then x :: y :: r else y :: ins x r
def drop (es : Files) (n : Name) : Files := es.filter fun p => !(p.1 == n)
def put (es : Files) (n : Name) (bs : List UInt8) : Files := ins (n, bs) (drop es n)
def get (es : Files) (n : Name) : Option (List UInt8) := (es.find? fun p => p.1 == n).map (·.2)
def used (es : Files) : Nat := (es.map fun p => p.2.length).sum

theorem mem_ins {x p : Name × List UInt8} : ∀ {es : Files}, p ∈ ins x es ↔ p = x ∨ p ∈ es
  | [] => by simp [ins]
  | y :: r => by
    unfold ins
    split
    · simp
    · simp only [List.mem_cons, mem_ins (es := r)]
      exact or_left_comm
theorem mem_drop {es : Files} {n : Name} {p : Name × List UInt8} : p ∈ drop es n ↔ p ∈ es ∧ p.1 ≠ n := by simp [drop]
theorem mem_put {es : Files} {n : Name} {bs : List UInt8} {p : Name × List UInt8} : p ∈ put es n bs ↔ p = (n, bs) ∨ (p ∈ es ∧ p.1 ≠ n) := by rw [put, mem_ins, mem_drop]

theorem rising_ins {x : Name × List UInt8} : ∀ {es : Files}, Rising es → (∀ p ∈ es, p.1 ≠ x.1) → Rising (ins x es)
  | [], _, _ => by simp [ins, Rising]
  | y :: r, h, hne => by
    obtain ⟨h1, h2⟩ := List.pairwise_cons.1 h
    unfold ins
    split
    · rename_i hb
      refine List.pairwise_cons.2 ⟨fun q hq => ?_, h⟩
      rcases List.mem_cons.1 hq with rfl | hq
      · exact hb
      · exact bef_trans hb (h1 q hq)
    · rename_i hb
      refine List.pairwise_cons.2 ⟨fun q hq => ?_, rising_ins h2 fun p hp => hne p (by simp [hp])⟩
      rcases mem_ins.1 hq with rfl | hq
      · rcases bef_total (hne y (by simp)) with e | e
        · exact e
        · exact absurd e hb
      · exact h1 q hq
theorem Rising.drop {es : Files} (h : Rising es) (n : Name) : Rising (drop es n) := List.Pairwise.filter _ h
theorem Rising.put {es : Files} (h : Rising es) (n : Name) (bs : List UInt8) : Rising (put es n bs) := rising_ins (h.drop n) fun p hp => (mem_drop.1 hp).2

theorem get_some {es : Files} (h : Rising es) {n : Name} {bs : List UInt8} : get es n = some bs ↔ (n, bs) ∈ es := by
  induction es with
  | nil => simp [get]
  | cons y r ih =>
    obtain ⟨h1, h2⟩ := List.pairwise_cons.1 h
    obtain ⟨a, b⟩ := y
    unfold get
    by_cases e : a = n
    · subst e
      simp only [List.find?_cons, beq_self_eq_true, Option.map_some, Option.some.injEq, List.mem_cons, Prod.mk.injEq, true_and]
      constructor
      · rintro rfl; exact .inl rfl
      · rintro (e | hm)
        · exact e.symm
        · exact absurd rfl (bef_ne (h1 (a, bs) hm))
    · have e' : (a == n) = false := by simpa using e
      simp only [List.find?_cons, e']
      have := ih h2
      unfold get at this
      rw [this]
      simp [Ne.symm e]
theorem get_none {es : Files} {n : Name} : get es n = none ↔ ∀ p ∈ es, p.1 ≠ n := by
  simp [get, List.find?_eq_none]

theorem get_put_same {es : Files} (h : Rising es) (n : Name) (bs : List UInt8) : get (put es n bs) n = some bs := (get_some (h.put n bs)).2 (mem_put.2 (.inl rfl))
theorem opt_ext {α : Type} {a b : Option α} (h : ∀ x, a = some x ↔ b = some x) : a = b := by
  cases a with
  | none => cases b with
    | none => rfl
    | some y => exact (h y).2 rfl
  | some y => exact ((h y).1 rfl).symm
theorem get_put_other {es : Files} (h : Rising es) {n m : Name} (hne : m ≠ n) (bs : List UInt8) : get (put es n bs) m = get es m := by
  refine opt_ext fun x => ?_
  rw [get_some (h.put n bs), get_some h, mem_put]
  simp [hne]
theorem get_drop_same {es : Files} (n : Name) : get (drop es n) n = none := get_none.2 fun p hp => (mem_drop.1 hp).2
theorem get_drop_other {es : Files} (h : Rising es) {n m : Name} (hne : m ≠ n) : get (drop es n) m = get es m := by
  refine opt_ext fun x => ?_
  rw [get_some (h.drop n), get_some h, mem_drop]
  simp [hne]
theorem drop_none {es : Files} {n : Name} (h : get es n = none) : drop es n = es := by
  unfold drop
  rw [List.filter_eq_self]
  intro p hp
  simpa using get_none.1 h p hp

theorem used_ins (x : Name × List UInt8) : ∀ es : Files, used (ins x es) = x.2.length + used es
  | [] => by simp [ins, used]
  | y :: r => by
    unfold ins
    split
    · simp [used]
    · have := used_ins x r
      simp only [used, List.map_cons, List.sum_cons] at this ⊢
      omega
theorem used_drop {es : Files} (h : Rising es) (n : Name) : used (drop es n) + ((get es n).getD []).length = used es := by
  induction es with
  | nil => simp [used, drop, get]
  | cons y r ih =>
    obtain ⟨h1, h2⟩ := List.pairwise_cons.1 h
    by_cases e : y.1 = n
    · have hn : get r n = none := get_none.2 fun p hp => by rw [← e]; exact (bef_ne (h1 p hp)).symm
      have hd : drop (y :: r) n = r := by
        have := drop_none hn
        unfold drop at this ⊢
        rw [List.filter_cons, this]
        simp [e]
      have hg : get (y :: r) n = some y.2 := by simp [get, e]
      rw [hd, hg]
      simp [used]
      omega
    · have hd : drop (y :: r) n = y :: drop r n := by simp [drop, e]
      have hg : get (y :: r) n = get r n := by simp [get, e]
      have := ih h2
      rw [hd, hg]
      simp only [used, List.map_cons, List.sum_cons] at this ⊢
      omega
theorem used_put {es : Files} (h : Rising es) (n : Name) (bs : List UInt8) : used (put es n bs) + ((get es n).getD []).length = used es + bs.length := by
  have := used_drop h n
  rw [put, used_ins]
  simp only
  omega

theorem len_ins (x : Name × List UInt8) : ∀ es : Files, (ins x es).length = es.length + 1
  | [] => rfl
  | y :: r => by
    unfold ins
    split
    · rfl
    · simp [len_ins x r]
theorem len_drop {es : Files} (h : Rising es) (n : Name) : (drop es n).length + (if (get es n).isSome then 1 else 0) = es.length := by
  induction es with
  | nil => simp [drop, get]
  | cons y r ih =>
    obtain ⟨h1, h2⟩ := List.pairwise_cons.1 h
    by_cases e : y.1 = n
    · have hn : get r n = none := get_none.2 fun p hp => by rw [← e]; exact (bef_ne (h1 p hp)).symm
      have hd : drop (y :: r) n = r := by
        have := drop_none hn
        unfold drop at this ⊢
        rw [List.filter_cons, this]
        simp [e]
      have hg : get (y :: r) n = some y.2 := by simp [get, e]
      rw [hd, hg]
      simp
    · have hd : drop (y :: r) n = y :: drop r n := by simp [drop, e]
      have hg : get (y :: r) n = get r n := by simp [get, e]
      have := ih h2
      rw [hd, hg]
      simp only [List.length_cons] at this ⊢
      omega
theorem len_put {es : Files} (h : Rising es) (n : Name) (bs : List UInt8) : (put es n bs).length = es.length + (if (get es n).isSome then 0 else 1) := by
  have := len_drop h n
  rw [put, len_ins]
  split at this <;> rename_i hh <;> simp [hh] <;> omega

theorem get_len {es : Files} (h : Rising es) (n : Name) : ((get es n).getD []).length ≤ used es := by have := used_drop h n; omega

/-- One thing that is done: 0 an append, 1 a truncation, 2 a renaming, 3 a removal. -/
structure Change where
  kind : Nat
  name : ByteArray
  to : ByteArray
  bytes : List UInt8
  size : Nat

def nm (s : ByteArray) : Name := s.data.toList
theorem nm_inj {s t : ByteArray} (h : nm s = nm t) : s = t := by
  obtain ⟨⟨a⟩⟩ := s
  obtain ⟨⟨b⟩⟩ := t
  simp only [nm] at h
  rw [h]

def old (es : Files) (n : Name) : List UInt8 := (get es n).getD []
def doit (es : Files) (c : Change) : Files :=
  match c.kind with
  | 0 => put es (nm c.name) (old es (nm c.name) ++ c.bytes)
  | 1 => put es (nm c.name) ((old es (nm c.name)).take c.size)
  | 2 => put (drop es (nm c.name)) (nm c.to) (old es (nm c.name))
  | _ => drop es (nm c.name)

/-- may it be done to these? -/
def Change.fits (c : Change) (es : Files) : Prop := c.kind < 4 ∧ (c.kind = 1 → c.size ≤ (old es (nm c.name)).length)

theorem rising_doit {es : Files} (h : Rising es) (c : Change) : Rising (doit es c) := by
  unfold doit
  split
  · exact h.put _ _
  · exact h.put _ _
  · exact (h.drop _).put _ _
  · exact h.drop _

/-- only an append makes more bytes -/
theorem used_doit {es : Files} (h : Rising es) (c : Change) : used (doit es c) ≤ used es + (if c.kind = 0 then c.bytes.length else 0) := by
  have h0 := used_drop h (nm c.name)
  unfold doit
  split
  · rename_i e
    have := used_put h (nm c.name) (old es (nm c.name) ++ c.bytes)
    rw [List.length_append] at this
    unfold old at this
    rw [if_pos e]
    unfold old
    omega
  · have := used_put h (nm c.name) ((old es (nm c.name)).take c.size)
    rw [List.length_take] at this
    unfold old at this ⊢
    omega
  · have := used_put (h.drop (nm c.name)) (nm c.to) (old es (nm c.name))
    unfold old at this ⊢
    omega
  · omega

theorem used_append {es : Files} (h : Rising es) (c : Change) (e : c.kind = 0) : used (doit es c) = used es + c.bytes.length := by
  unfold doit
  rw [e]
  have := used_put h (nm c.name) (old es (nm c.name) ++ c.bytes)
  rw [List.length_append] at this
  unfold old at this ⊢
  simp only
  omega

def all (es : Files) (cs : List Change) : Files := cs.foldl doit es
theorem all_nil (es : Files) : all es [] = es := rfl
theorem all_cons (es : Files) (c : Change) (cs : List Change) : all es (c :: cs) = all (doit es c) cs := rfl
theorem all_snoc (es : Files) (cs : List Change) (c : Change) : all es (cs ++ [c]) = doit (all es cs) c := by simp [all, List.foldl_append]
theorem all_append (es : Files) (cs ds : List Change) : all es (cs ++ ds) = all (all es cs) ds := by simp [all, List.foldl_append]
theorem rising_all {es : Files} (h : Rising es) (cs : List Change) : Rising (all es cs) := by
  induction cs generalizing es with
  | nil => exact h
  | cons c cs ih => exact ih (rising_doit h c)

end Go.Proofs.Ytmehneicdklfeaa.fs

namespace Go.Proofs.Ytmehneicdklfeaa.r2
open Go.RowKit Go.Maps Go.Proofs.Ytmehneicdklfeaa.sum Go.Proofs.Ytmehneicdklfeaa.kept Go.Proofs.Ytmehneicdklfeaa.app Go.Proofs.Ytmehneicdklfeaa.writer Go.Proofs.Ytmehneicdklfeaa.clone Go.Proofs.Ytmehneicdklfeaa.fs
set_option linter.unusedVariables false

/-- a file: its name, the slice, the bytes -/
abbrev Fv := ByteArray × Value × List UInt8
def files (l : List Fv) : Files := l.map fun q => (nm q.1, q.2.2)
def cells (l : List Fv) : List Value := l.flatMap fun q => [.string q.1, q.2.1]

theorem cells_append (l m : List Fv) : cells (l ++ m) = cells l ++ cells m := List.flatMap_append
theorem cells_length (l : List Fv) : (cells l).length = l.length * 2 := by
  induction l with
  | nil => rfl
  | cons q l ih =>
    show (Value.string q.1 :: q.2.1 :: cells l).length = _
    simp only [List.length_cons, ih]
    omega
theorem cells_at : ∀ (l : List Fv) (k : Nat) (h : k < l.length), (cells l)[k * 2]? = some (.string l[k].1) ∧ (cells l)[k * 2 + 1]? = some l[k].2.1
  | q :: l, 0, _ => ⟨rfl, rfl⟩
  | q :: l, k + 1, h => by
    have := cells_at l k (by simpa using h)
    refine ⟨?_, ?_⟩
    · show (Value.string q.1 :: q.2.1 :: cells l)[(k + 1) * 2]? = _
      rw [show (k + 1) * 2 = k * 2 + 1 + 1 by omega, List.getElem?_cons_succ, List.getElem?_cons_succ, this.1]
      rfl
    · show (Value.string q.1 :: q.2.1 :: cells l)[(k + 1) * 2 + 1]? = _
      rw [show (k + 1) * 2 + 1 = (k * 2 + 1) + 1 + 1 by omega, List.getElem?_cons_succ, List.getElem?_cons_succ, this.2]
      rfl

/-- where a name stands -/
def at? (l : List Fv) (n : ByteArray) : Option Nat := l.findIdx? fun q => decide (q.1 = n)
def place (l : List Fv) (n : ByteArray) : Int := match at? l n with | some k => (k : Int) | none => -1

theorem txt_ne {a b : ByteArray} (h : a ≠ b) : (a.toList == b.toList) = false := by
  rw [ByteArray.toList_eq, ByteArray.toList_eq]
  simp only [beq_eq_false_iff_ne, ne_eq]
  exact fun e => h (nm_inj e)

def FindRel (l : List Fv) (n : ByteArray) (w : World) (i : Value) (wr : World) : Prop := ∃ k : Nat, i = .int .i64 (k : Int) ∧ k ≤ l.length ∧ (∀ j (h : j < l.length), j < k → l[j].1 ≠ n) ∧ w = wr

theorem place_at {l : List Fv} {n : ByteArray} {k : Nat} (hk : k < l.length) (h : l[k].1 = n) (hb : ∀ j (h : j < l.length), j < k → l[j].1 ≠ n) : place l n = (k : Int) := by
  have : at? l n = some k := by
    unfold at?
    rw [List.findIdx?_eq_some_iff_getElem]
    exact ⟨hk, by simpa using h, fun j hj => by simpa using hb j (by omega) hj⟩
  unfold place
  rw [this]
theorem place_none {l : List Fv} {n : ByteArray} (hb : ∀ j (h : j < l.length), l[j].1 ≠ n) : place l n = -1 := by
  have : at? l n = none := by
    unfold at?
    rw [List.findIdx?_eq_none_iff]
    intro q hq
    obtain ⟨j, hj, rfl⟩ := List.getElem_of_mem hq
    simpa using hb j hj
  unfold place
  rw [this]

end Go.Proofs.Ytmehneicdklfeaa.r2

namespace Go.Proofs.Ytmehneicdklfeaa.r2
open Go.RowKit Go.Maps Go.Proofs.Ytmehneicdklfeaa.sum Go.Proofs.Ytmehneicdklfeaa.kept Go.Proofs.Ytmehneicdklfeaa.app Go.Proofs.Ytmehneicdklfeaa.writer Go.Proofs.Ytmehneicdklfeaa.clone Go.Proofs.Ytmehneicdklfeaa.fs
set_option linter.unusedVariables false

def but (n : ByteArray) (l : List Fv) : List Fv := l.filter fun q => !decide (q.1 = n)
theorem but_le (n : ByteArray) (l : List Fv) : (but n l).length ≤ l.length := List.length_filter_le _ _
theorem but_snoc (n : ByteArray) (l : List Fv) (k : Nat) (h : k < l.length) : but n (l.take (k + 1)) = but n (l.take k) ++ (if l[k].1 = n then [] else [l[k]]) := by
  rw [List.take_succ_eq_append_getElem h]
  unfold but
  rw [List.filter_append]
  congr 1
  by_cases e : l[k].1 = n
  · simp [e]
  · simp [e]
theorem files_but (n : ByteArray) (l : List Fv) : files (but n l) = drop (files l) (nm n) := by
  unfold files but drop
  rw [List.filter_map]
  congr 1
  refine List.filter_congr fun q _ => ?_
  simp only [Function.comp_apply]
  congr 1
  by_cases e : q.1 = n
  · simp [e]
  · have : nm q.1 ≠ nm n := fun h => e (nm_inj h)
    simp [e, this]

end Go.Proofs.Ytmehneicdklfeaa.r2

namespace Go.Proofs.Ytmehneicdklfeaa.r2
open Go.RowKit Go.Maps Go.Proofs.Ytmehneicdklfeaa.sum Go.Proofs.Ytmehneicdklfeaa.kept Go.Proofs.Ytmehneicdklfeaa.app Go.Proofs.Ytmehneicdklfeaa.writer Go.Proofs.Ytmehneicdklfeaa.clone Go.Proofs.Ytmehneicdklfeaa.fs
set_option linter.unusedVariables false

theorem bef_asymm {a b : Name} (h : bef a b = true) : bef b a = false := by
  cases hb : bef b a with
  | false => rfl
  | true =>
    have := bef_trans h hb
    rw [bef_irrefl] at this
    cases this

theorem ins_at {x : Name × List UInt8} : ∀ {es : Files} {k : Nat}, k ≤ es.length → (∀ j (h : j < es.length), j < k → bef es[j].1 x.1 = true) → (∀ h : k < es.length, bef es[k].1 x.1 = false) → (∀ p ∈ es, p.1 ≠ x.1) → ins x es = es.take k ++ x :: es.drop k
  | [], k, _, _, _, _ => by simp [ins]
  | y :: r, 0, _, _, h2, h3 => by
    have hb : bef x.1 y.1 = true := by
      rcases bef_total (h3 y (by simp)) with e | e
      · have := h2 (by simp)
        simp only [List.getElem_cons_zero] at this
        rw [this] at e
        cases e
      · exact e
    simp [ins, hb]
  | y :: r, k + 1, h0, h1, h2, h3 => by
    have hb : bef x.1 y.1 = false := bef_asymm (h1 0 (by simp) (by omega))
    have ih := ins_at (x := x) (es := r) (k := k) (by simpa using h0) (fun j hj hjk => h1 (j + 1) (by simpa using hj) (by omega)) (fun h => h2 (by simpa using h)) (fun p hp => h3 p (by simp [hp]))
    unfold ins
    rw [hb, if_neg (by simp), ih]
    rfl

def wit (k : Nat) (f : Fv) (l : List Fv) : List Fv := (but f.1 l).take k ++ f :: (but f.1 l).drop k
/-- k is where f stands -/
def Stands (k : Nat) (f : Fv) (l : List Fv) : Prop := k ≤ (but f.1 l).length ∧ (∀ j (h : j < (but f.1 l).length), j < k → bef (nm (but f.1 l)[j].1) (nm f.1) = true) ∧ ∀ h : k < (but f.1 l).length, bef (nm (but f.1 l)[k].1) (nm f.1) = false

theorem files_append (l m : List Fv) : files (l ++ m) = files l ++ files m := List.map_append
theorem files_wit {k : Nat} {f : Fv} {l : List Fv} (h : Stands k f l) : files (wit k f l) = put (files l) (nm f.1) f.2.2 := by
  obtain ⟨h0, h1, h2⟩ := h
  unfold put
  rw [← files_but]
  have hlen : (files (but f.1 l)).length = (but f.1 l).length := List.length_map _
  have hi := ins_at (x := (nm f.1, f.2.2)) (es := files (but f.1 l)) (k := k) (by rw [hlen]; exact h0) (fun j hj hjk => by
    have := h1 j (by rw [← hlen]; exact hj) hjk
    simpa [files] using this) (fun hk => by
    have := h2 (by rw [← hlen]; exact hk)
    simpa [files] using this) (fun p hp => by
    rw [files_but] at hp
    exact (mem_drop.1 hp).2)
  rw [hi]
  unfold wit
  rw [files_append]
  simp [files]

/-- a source of an append -/
def Src (w : World) (x : Value) (m : List Fv) : Prop := (x = .slice none 0 0 ∧ m = []) ∨ ∃ b o c, x = .slice (some ⟨b, o, none⟩) m.length c ∧ ∀ j u, (cells m)[j]? = some u → w.cell? ⟨b, o + j, none⟩ = some u

theorem Src.no {w w' : World} {x : Value} {m : List Fv} (h : Src w x m) (hk : Kp No w w') : Src w' x m := by
  rcases h with h | ⟨b, o, c, e, hc⟩
  · exact .inl h
  · exact .inr ⟨b, o, c, e, fun j u hj => hk.cell' (hc j u hj) id⟩

theorem less_lt : ∀ x y : List UInt8, Op.bytesLess x y = bytesBefore x y
  | [], [] => rfl
  | _ :: _, [] => rfl
  | [], _ :: _ => rfl
  | a :: x, b :: y => by rw [Op.bytesLess, bytesBefore, less_lt x y]
theorem less_bef (x y : ByteArray) : Op.bytesLess x.toList y.toList = bef (nm x) (nm y) := by
  rw [ByteArray.toList_eq, ByteArray.toList_eq, less_lt]
  rfl

theorem ends {w : World} {base n : Nat} {v : Value} {l : List Value} {t : TypeId} {m : Nat} (h : w.ownsRow base t m v n l) : (v = .slice none 0 0 ∧ n = 0) ∨ ∃ b cap, v = .slice (some ⟨b, 0, none⟩) n cap := by
  rcases h.2 with ⟨e, h0⟩ | ⟨g, cap, cur, e, -⟩
  · exact .inl ⟨e, h0⟩
  · exact .inr ⟨g, cap, e⟩

def WiRel (w1 : World) (f : Fv) (l : List Fv) (i : Value) (wr : World) : Prop := ∃ k : Nat, i = .int .i64 (k : Int) ∧ k ≤ (but f.1 l).length ∧ (∀ j (h : j < (but f.1 l).length), j < k → bef (nm (but f.1 l)[j].1) (nm f.1) = true) ∧ Kp No w1 wr

end Go.Proofs.Ytmehneicdklfeaa.r2

namespace Go.Proofs.Ytmehneicdklfeaa.fsMem
open Go.RowKit Go.Maps Go.Proofs.Ytmehneicdklfeaa.sum Go.Proofs.Ytmehneicdklfeaa.kept Go.Proofs.Ytmehneicdklfeaa.app Go.Proofs.Ytmehneicdklfeaa.writer Go.Proofs.Ytmehneicdklfeaa.clone Go.Proofs.Ytmehneicdklfeaa.fs
set_option linter.unusedVariables false

theorem law : Keyed Try.prog 9 := string_keyed Try.underlying9
theorem zeroS (w : World) : (zeroValue 26).run Try.prog w = .ok (.slice none 0 0) w := by kernel_rfl

/-- an element as it is -/
def raw (v : Value) : Option (DataW Value × List MemPlace) := some (.held v, [])
def dat (val : Name → Value) (es : Files) : DataW Value := .map (es.map fun e => (.string e.1, .held (val e.1)))

theorem sameKey_str (a b : Name) : (Lit.string a).sameKey (.string b) = (a == b) := rfl

theorem dat_at (val : Name → Value) (es : Files) (n : Name) (z : DataW Value) : (dat val es).atKey (.string n) z = if (get es n).isSome then .held (val n) else z := by
  unfold dat fs.get DataW.atKey
  simp only
  induction es with
  | nil => simp
  | cons y r ih =>
    simp only [List.map_cons, List.find?_cons, sameKey_str]
    by_cases e : y.1 = n
    · subst e; simp
    · have e' : (y.1 == n) = false := by simpa using e
      simp only [e']
      exact ih

theorem dat_has (val : Name → Value) (es : Files) (n : Name) : Maps.has (dat val es) (.string n) = (get es n).isSome := by
  unfold dat fs.get
  rw [Maps.has_eq]
  induction es with
  | nil => simp
  | cons y r ih =>
    simp only [List.map_cons, List.any_cons, List.find?_cons, sameKey_str]
    by_cases e : y.1 = n
    · subst e; simp
    · have e' : (y.1 == n) = false := by simpa using e
      simp only [e', Bool.false_or]
      exact ih

theorem dat_size (val : Name → Value) (es : Files) : Maps.size (dat val es) = es.length := by simp [dat, Maps.size]

theorem dat_congr {val val' : Name → Value} {es : Files} (h : ∀ e ∈ es, val e.1 = val' e.1) : dat val es = dat val' es := by
  unfold dat
  congr 1
  exact List.map_congr_left fun e he => by rw [h e he]

theorem insert_map (val : Name → Value) (x : Name × List UInt8) : ∀ es : Files, DataW.insert (Lit.string x.1, DataW.held (val x.1)) (es.map fun e => (Lit.string e.1, DataW.held (val e.1))) = (ins x es).map fun e => (Lit.string e.1, DataW.held (val e.1))
  | [] => rfl
  | y :: r => by
    have hb : (Lit.string x.1).before (.string y.1) = bef x.1 y.1 := rfl
    unfold ins
    simp only [List.map_cons, DataW.insert, hb]
    split
    · rfl
    · rw [insert_map val x r]; rfl

theorem filter_map (val : Name → Value) (n : Name) (es : Files) : ((es.map fun e => (Lit.string e.1, DataW.held (val e.1))).filter fun p => !p.1.sameKey (.string n)) = (drop es n).map fun e => (Lit.string e.1, DataW.held (val e.1)) := by
  unfold drop
  rw [List.filter_map]
  rfl

theorem dat_del (val : Name → Value) (es : Files) (n : Name) : (dat val es).del (.string n) = dat val (drop es n) := by
  show DataW.map _ = _
  unfold dat
  rw [filter_map]

def upd (val : Name → Value) (n : Name) (v : Value) : Name → Value := fun m => if m = n then v else val m
theorem upd_same (val : Name → Value) (n : Name) (v : Value) : upd val n v n = v := by simp [upd]
theorem upd_other (val : Name → Value) {n m : Name} (v : Value) (h : m ≠ n) : upd val n v m = val m := by simp [upd, h]

theorem dat_put (val : Name → Value) (es : Files) (n : Name) (v : Value) (bs : List UInt8) : (dat val es).put (.string n) (.held v) = dat (upd val n v) (put es n bs) := by
  show DataW.map (DataW.insert (.string n, .held v) ((es.map fun e => (Lit.string e.1, DataW.held (val e.1))).filter fun p => !p.1.sameKey (.string n))) = _
  rw [filter_map]
  have e1 : (drop es n).map (fun e => (Lit.string e.1, DataW.held (val e.1))) = (drop es n).map fun e => (Lit.string e.1, DataW.held (upd val n v e.1)) :=
    List.map_congr_left fun e he => by rw [upd_other _ _ (mem_drop.1 he).2]
  rw [e1]
  have := insert_map (upd val n v) (n, bs) (drop es n)
  simp only [upd_same] at this
  rw [this]
  rfl

/-- a row of a file's bytes, and whose it is -/
def RowOf (w : World) (base : Nat) (ρ : Nat → Option Name) (v : Value) (n : Name) (bs : List UInt8) : Prop :=
  w.ownsRow base 5 1 v bs.length (bs.map B) ∧ ∀ g, v.ownBlock = some g → ρ g = some n

/-- Block b is a map of these files, but that the file called x, if there is one, may have any value. -/
def FMx (x : Option Name) (w : World) (base b : Nat) (ρ : Nat → Option Name) (es : Files) : Prop :=
  Rising es ∧ ρ b = none ∧ base ≤ b ∧ ∃ val, w.ownsMap Try.prog 9 raw b es.length (dat val es) ∧ ∀ e ∈ es, x ≠ some e.1 → RowOf w base ρ (val e.1) e.1 e.2
abbrev FM := FMx none

theorem own_tight {w : World} {b n : Nat} {val : Name → Value} {es : Files} (h : w.ownsMap Try.prog 9 raw b n (dat val es)) : w.ownsMap Try.prog 9 raw b es.length (dat val es) := by
  obtain ⟨xs, clock, hb, F, hs, hD⟩ := h
  refine ⟨xs, clock, hb, F, ?_, hD⟩
  have := congrArg Maps.size hD
  rw [dat_size] at this
  simp [Maps.size, length_sorted] at this
  omega

theorem RowOf.kept {S : Nat → Prop} {w w' : World} {base : Nat} {ρ ρ' : Nat → Option Name} {v : Value} {n : Name} {bs : List UInt8} (h : RowOf w base ρ v n bs) (hk : Kp S w w') (hs : ∀ g, v.ownBlock = some g → ¬ S g) (hr : ∀ g, v.ownBlock = some g → g < w.heap.size → ρ' g = ρ g) : RowOf w' base ρ' v n bs :=
  ⟨owns_kept h.1 hk hs, fun g hg => by rw [hr g hg (h.1.lt g hg).2]; exact h.2 g hg⟩

theorem ownsMap_kept {S : Nat → Prop} {w w' : World} {b n : Nat} {D : DataW Value} (h : w.ownsMap Try.prog 9 raw b n D) (hk : Kp S w w') (hs : ¬ S b) : w'.ownsMap Try.prog 9 raw b n D := by
  have hlt := h.lt
  obtain ⟨es, clock, hb, F, hsz, hD⟩ := h
  exact ⟨es, clock, (hk.block b hlt hs).trans hb, F, hsz, hD⟩

/-- what does not touch the map and its rows leaves it -/
theorem FMx.kept {x : Option Name} {S : Nat → Prop} {w w' : World} {base b : Nat} {ρ ρ' : Nat → Option Name} {es : Files} (h : FMx x w base b ρ es) (hk : Kp S w w') (hs : ∀ k, k < w.heap.size → S k → k ≠ b ∧ (∀ n, ρ k = some n → x = some n))
    (hr : ∀ k, k < w.heap.size → ρ' k = ρ k) : FMx x w' base b ρ' es := by
  obtain ⟨h1, h2, h3, val, h4, h5⟩ := h
  have hb := h4.lt
  refine ⟨h1, by rw [hr b hb]; exact h2, h3, val, ownsMap_kept h4 hk (fun e => (hs b hb e).1 rfl), fun e he hx => ?_⟩
  have hrow := h5 e he hx
  exact hrow.kept hk (fun g hg hS => hx ((hs g (hrow.1.lt g hg).2 hS).2 e.1 (hrow.2 g hg))) fun g hg hlt => hr g hlt

theorem FMx.weak {w : World} {base b : Nat} {ρ : Nat → Option Name} {es : Files} (h : FM w base b ρ es) (n : Name) : FMx (some n) w base b ρ es := by
  obtain ⟨h1, h2, h3, val, h4, h5⟩ := h
  exact ⟨h1, h2, h3, val, h4, fun e he _ => h5 e he (by simp)⟩

theorem FMx.lt {x : Option Name} {w : World} {base b : Nat} {ρ : Nat → Option Name} {es : Files} (h : FMx x w base b ρ es) : b < w.heap.size := by
  obtain ⟨_, _, _, val, h4, _⟩ := h
  exact h4.lt

theorem key_nm {s : ByteArray} (hs : s.size ≤ maxLen) : keyOf Try.prog 9 (.string s) = some (.string (nm s)) := Go.WideMaps.keyOf_string_mk Try.underlying9 hs

/-- what stands at a name: the file's row; of none nil; and so it is looked up as long as nothing that is there turns -/
theorem FMx.look {w : World} {base b : Nat} {ρ : Nat → Option Name} {es : Files} (h : FM w base b ρ es) {s : ByteArray} (hs : s.size ≤ maxLen) :
    ∃ v, RowOf w base ρ v (nm s) (old es (nm s)) ∧ ∀ w', Kp No w w' → (Instr.lookup 41 (.map (some b)) (.string s) false).run Try.prog w' = .ok v w' ∧
      (Instr.lookup 41 (.map (some b)) (.string s) true).run Try.prog w' = .ok (.tuple #[v, .bool (get es (nm s)).isSome]) w' := by
  obtain ⟨h1, h2, h3, val, h4, h5⟩ := h
  refine ⟨if (get es (nm s)).isSome then val (nm s) else .slice none 0 0, ?_, fun w' hk => ?_⟩
  · cases hg : get es (nm s) with
    | none =>
      unfold old
      rw [hg]
      exact ⟨World.ownsRow_nil _ _ _ _, fun g hg => by simp [Value.ownBlock] at hg⟩
    | some bs =>
      unfold old
      rw [hg]
      exact h5 (nm s, bs) ((get_some h1).1 hg) (by simp)
  · have h4' := ownsMap_kept h4 hk id
    obtain ⟨v, ps, hr, hv⟩ := h4'.lookup law Try.underlying41 (zeroS w') (zd := .held (.slice none 0 0)) (zp := []) rfl (key_nm hs)
    obtain ⟨v2, ps2, hr2, hv2⟩ := h4'.look_ok law Try.underlying41 (zeroS w') (zd := .held (.slice none 0 0)) (zp := []) rfl (key_nm hs)
    rw [dat_at] at hv hv2
    rw [dat_has] at hr2
    simp only [raw, Option.some.injEq, Prod.mk.injEq] at hv hv2
    have key : ∀ u : Value, DataW.held u = (if (get es (nm s)).isSome then DataW.held (val (nm s)) else DataW.held (.slice none 0 0)) → u = if (get es (nm s)).isSome then val (nm s) else .slice none 0 0 := by
      intro u hu
      by_cases hh : (get es (nm s)).isSome = true
      · rw [if_pos hh] at hu ⊢; exact DataW.held.inj hu
      · rw [if_neg hh] at hu ⊢; exact DataW.held.inj hu
    rw [key v hv.1] at hr
    rw [key v2 hv2.1] at hr2
    exact ⟨hr, hr2⟩

/-- a store of a row of one's own -/
theorem FMx.store {w : World} {base b : Nat} {ρ : Nat → Option Name} {es : Files} {s : ByteArray} {v : Value} {bs : List UInt8} (h : FMx (some (nm s)) w base b ρ es) (hs : s.size ≤ maxLen) (hl : es.length < maxLen) (hv : RowOf w base ρ v (nm s) bs) :
    ∃ w', (Instr.mapUpdate 41 (.map (some b)) (.string s) v).run Try.prog w = .ok () w' ∧ FM w' base b ρ (put es (nm s) bs) ∧ Kp (fun k => k = b) w w' := by
  obtain ⟨h1, h2, h3, val, h4, h5⟩ := h
  obtain ⟨w', hr, ho, hg⟩ := h4.update law Try.underlying41 hl (d := .held v) (ps := []) (key_nm hs) rfl
  have hk : Kp (fun k => k = b) w w' := (Kp.refl _ w).grown hg fun k _ e => (Option.some.inj e).symm
  refine ⟨w', hr, ⟨h1.put _ _, h2, h3, upd val (nm s) v, ?_, ?_⟩, hk⟩
  · rw [dat_put val es (nm s) v bs] at ho
    exact own_tight ho
  · have keep : ∀ {u : Value} {m : Name} {cs : List UInt8}, RowOf w base ρ u m cs → RowOf w' base ρ u m cs := fun {u m cs} hh => hh.kept hk (fun g hg e => by
      have := hh.2 g hg
      rw [e, h2] at this
      cases this) fun _ _ _ => rfl
    intro e he _
    rcases mem_put.1 he with rfl | ⟨he2, hne⟩
    · rw [upd_same]; exact keep hv
    · rw [upd_other _ _ hne]; exact keep (h5 e he2 (fun e9 => hne (Option.some.inj e9).symm))

/-- delete -/
theorem FMx.drop {w : World} {base b : Nat} {ρ : Nat → Option Name} {es : Files} {s : ByteArray} (h : FM w base b ρ es) (hs : s.size ≤ maxLen) (ty : TypeId) :
    ∃ w', (Builtin.delete_ #[41, 9] ty #[.map (some b), .string s]).run Try.prog w = .ok (.tuple #[]) w' ∧ FM w' base b ρ (drop es (nm s)) ∧ Kp (fun k => k = b) w w' := by
  obtain ⟨h1, h2, h3, val, h4, h5⟩ := h
  have hb := h4.lt
  obtain ⟨w', hr, ho, ht⟩ := h4.drop law Try.underlying41 (key_nm hs) ty
  have hk : Kp (fun k => k = b) w w' := by
    obtain ⟨xs, clock, xs', clock', hbb, rfl⟩ := ht
    exact ⟨rfl, rfl, rfl, by simp [Go.ChangeMaps.setBlock], fun i _ hi => Go.ChangeMaps.heap_setBlock_other hbb _ hi⟩
  refine ⟨w', hr, ⟨h1.drop _, h2, h3, val, ?_, ?_⟩, hk⟩
  · rw [dat_del] at ho
    exact own_tight ho
  · intro e he _
    have hh := h5 e (mem_drop.1 he).1 (by simp)
    exact hh.kept hk (fun g hg e => by
      have := hh.2 g hg
      rw [e, h2] at this
      cases this) fun _ _ _ => rfl

end Go.Proofs.Ytmehneicdklfeaa.fsMem
