/- Files by their names, in plain lists that rise by the names; what is done to them; the bytes of all of them. No program is named here. -/
import Derived.Maps.Ext
namespace Go.Proofs.YtpmmjihkgfmbhaaDoor.fs
open Go.WideShapes
set_option linter.unusedVariables false

abbrev Name := List UInt8
abbrev Files := List (Name × List UInt8)

def bef (a b : Name) : Bool := (Lit.string a).before (.string b)
theorem bef_irrefl (a : Name) : bef a a = false := before_irrefl _
theorem bef_trans {a b c : Name} (h : bef a b = true) (k : bef b c = true) : bef a c = true := before_trans h k
theorem bef_total {a b : Name} (h : a ≠ b) : bef a b = true ∨ bef b a = true := Go.ChangeMaps.before_total ⟨a, rfl⟩ ⟨b, rfl⟩ (by intro e; cases e; exact h rfl)
theorem bef_ne {a b : Name} (h : bef a b = true) : a ≠ b := by rintro rfl; rw [bef_irrefl] at h; cases h

def Rising (es : Files) : Prop := es.Pairwise (fun p q => bef p.1 q.1 = true)
theorem rising_nil : Rising [] := List.Pairwise.nil
theorem Rising.apart {es : Files} (h : Rising es) : es.Pairwise (fun p q => p.1 ≠ q.1) := h.imp fun hb => bef_ne hb

theorem eq_of_mem : ∀ {l m : Files}, Rising l → Rising m → (∀ p, p ∈ l ↔ p ∈ m) → l = m
  | [], [], _, _, _ => rfl
  | [], b :: s, _, _, h => by have := (h b).2 (by simp); simp at this
  | a :: r, [], _, _, h => by have := (h a).1 (by simp); simp at this
  | a :: r, b :: s, h1, h2, h => by
    obtain ⟨a1, a2⟩ := List.pairwise_cons.1 h1
    obtain ⟨b1, b2⟩ := List.pairwise_cons.1 h2
    have hab : a = b := by
      rcases List.mem_cons.1 ((h a).1 (by simp)) with e | ha
      · exact e
      · rcases List.mem_cons.1 ((h b).2 (by simp)) with e | hb
        · exact e.symm
        · have := bef_trans (a1 b hb) (b1 a ha)
          rw [bef_irrefl] at this
          cases this
    subst hab
    rw [eq_of_mem a2 b2 (fun p => ⟨fun hp => by
      rcases List.mem_cons.1 ((h p).1 (by simp [hp])) with e | hp'
      · have := a1 p hp
        rw [e, bef_irrefl] at this
        cases this
      · exact hp', fun hp => by
      rcases List.mem_cons.1 ((h p).2 (by simp [hp])) with e | hp'
      · have := b1 p hp
        rw [e, bef_irrefl] at this
        cases this
      · exact hp'⟩)]

def ins (x : Name × List UInt8) : Files → Files
  | [] => [x]
  | y :: r => if bef x.1 y.1 then x :: y :: r else y :: ins x r
def drop (es : Files) (n : Name) : Files := es.filter fun p => !(p.1 == n)
def put (es : Files) (n : Name) (bs : List UInt8) : Files := ins (n, bs) (drop es n)
def get (es : Files) (n : Name) : Option (List UInt8) := (es.find? fun p => p.1 == n).map (·.2)
def used (es : Files) : Nat := (es.map fun p => p.2.length).sum

theorem mem_ins {x p : Name × List UInt8} : ∀ {es : Files}, p ∈ ins x es ↔ p = x ∨ p ∈ es
  | [] => by simp [ins]
  | y :: r => by
    unfold ins
    split
    · simp
    · simp only [List.mem_cons, mem_ins (es := r)]
      exact or_left_comm
theorem mem_drop {es : Files} {n : Name} {p : Name × List UInt8} : p ∈ drop es n ↔ p ∈ es ∧ p.1 ≠ n := by simp [drop]
theorem mem_put {es : Files} {n : Name} {bs : List UInt8} {p : Name × List UInt8} : p ∈ put es n bs ↔ p = (n, bs) ∨ (p ∈ es ∧ p.1 ≠ n) := by rw [put, mem_ins, mem_drop]

theorem rising_ins {x : Name × List UInt8} : ∀ {es : Files}, Rising es → (∀ p ∈ es, p.1 ≠ x.1) → Rising (ins x es)
  | [], _, _ => by simp [ins, Rising]
  | y :: r, h, hne => by
    obtain ⟨h1, h2⟩ := List.pairwise_cons.1 h
    unfold ins
    split
    · rename_i hb
      refine List.pairwise_cons.2 ⟨fun q hq => ?_, h⟩
      rcases List.mem_cons.1 hq with rfl | hq
      · exact hb
      · exact bef_trans hb (h1 q hq)
    · rename_i hb
      refine List.pairwise_cons.2 ⟨fun q hq => ?_, rising_ins h2 fun p hp => hne p (by simp [hp])⟩
      rcases mem_ins.1 hq with rfl | hq
      · rcases bef_total (hne y (by simp)) with e | e
        · exact e
        · exact absurd e hb
      · exact h1 q hq
theorem Rising.drop {es : Files} (h : Rising es) (n : Name) : Rising (drop es n) := List.Pairwise.filter _ h
theorem Rising.put {es : Files} (h : Rising es) (n : Name) (bs : List UInt8) : Rising (put es n bs) := rising_ins (h.drop n) fun p hp => (mem_drop.1 hp).2

theorem get_some {es : Files} (h : Rising es) {n : Name} {bs : List UInt8} : get es n = some bs ↔ (n, bs) ∈ es := by
  induction es with
  | nil => simp [get]
  | cons y r ih =>
    obtain ⟨h1, h2⟩ := List.pairwise_cons.1 h
    obtain ⟨a, b⟩ := y
    unfold get
    by_cases e : a = n
    · subst e
      simp only [List.find?_cons, beq_self_eq_true, Option.map_some, Option.some.injEq, List.mem_cons, Prod.mk.injEq, true_and]
      constructor
      · rintro rfl; exact .inl rfl
      · rintro (e | hm)
        · exact e.symm
        · exact absurd rfl (bef_ne (h1 (a, bs) hm))
    · have e' : (a == n) = false := by simpa using e
      simp only [List.find?_cons, e']
      have := ih h2
      unfold get at this
      rw [this]
      simp [Ne.symm e]
theorem get_none {es : Files} {n : Name} : get es n = none ↔ ∀ p ∈ es, p.1 ≠ n := by
  simp [get, List.find?_eq_none]

theorem get_put_same {es : Files} (h : Rising es) (n : Name) (bs : List UInt8) : get (put es n bs) n = some bs := (get_some (h.put n bs)).2 (mem_put.2 (.inl rfl))
theorem opt_ext {α : Type} {a b : Option α} (h : ∀ x, a = some x ↔ b = some x) : a = b := by
  cases a with
  | none => cases b with
    | none => rfl
    | some y => exact (h y).2 rfl
  | some y => exact ((h y).1 rfl).symm
theorem get_put_other {es : Files} (h : Rising es) {n m : Name} (hne : m ≠ n) (bs : List UInt8) : get (put es n bs) m = get es m := by
  refine opt_ext fun x => ?_
  rw [get_some (h.put n bs), get_some h, mem_put]
  simp [hne]
theorem get_drop_same {es : Files} (n : Name) : get (drop es n) n = none := get_none.2 fun p hp => (mem_drop.1 hp).2
theorem get_drop_other {es : Files} (h : Rising es) {n m : Name} (hne : m ≠ n) : get (drop es n) m = get es m := by
  refine opt_ext fun x => ?_
  rw [get_some (h.drop n), get_some h, mem_drop]
  simp [hne]
theorem drop_none {es : Files} {n : Name} (h : get es n = none) : drop es n = es := by
  unfold drop
  rw [List.filter_eq_self]
  intro p hp
  simpa using get_none.1 h p hp

theorem used_ins (x : Name × List UInt8) : ∀ es : Files, used (ins x es) = x.2.length + used es
  | [] => by simp [ins, used]
  | y :: r => by
    unfold ins
    split
    · simp [used]
    · have := used_ins x r
      simp only [used, List.map_cons, List.sum_cons] at this ⊢
      omega
theorem used_drop {es : Files} (h : Rising es) (n : Name) : used (drop es n) + ((get es n).getD []).length = used es := by
  induction es with
  | nil => simp [used, drop, get]
  | cons y r ih =>
    obtain ⟨h1, h2⟩ := List.pairwise_cons.1 h
    by_cases e : y.1 = n
    · have hn : get r n = none := get_none.2 fun p hp => by rw [← e]; exact (bef_ne (h1 p hp)).symm
      have hd : drop (y :: r) n = r := by
        have := drop_none hn
        unfold drop at this ⊢
        rw [List.filter_cons, this]
        simp [e]
      have hg : get (y :: r) n = some y.2 := by simp [get, e]
      rw [hd, hg]
      simp [used]
      omega
    · have hd : drop (y :: r) n = y :: drop r n := by simp [drop, e]
      have hg : get (y :: r) n = get r n := by simp [get, e]
      have := ih h2
      rw [hd, hg]
      simp only [used, List.map_cons, List.sum_cons] at this ⊢
      omega
theorem used_put {es : Files} (h : Rising es) (n : Name) (bs : List UInt8) : used (put es n bs) + ((get es n).getD []).length = used es + bs.length := by
  have := used_drop h n
  rw [put, used_ins]
  simp only
  omega

theorem len_ins (x : Name × List UInt8) : ∀ es : Files, (ins x es).length = es.length + 1
  | [] => rfl
  | y :: r => by
    unfold ins
    split
    · rfl
    · simp [len_ins x r]
theorem len_drop {es : Files} (h : Rising es) (n : Name) : (drop es n).length + (if (get es n).isSome then 1 else 0) = es.length := by
  induction es with
  | nil => simp [drop, get]
  | cons y r ih =>
    obtain ⟨h1, h2⟩ := List.pairwise_cons.1 h
    by_cases e : y.1 = n
    · have hn : get r n = none := get_none.2 fun p hp => by rw [← e]; exact (bef_ne (h1 p hp)).symm
      have hd : drop (y :: r) n = r := by
        have := drop_none hn
        unfold drop at this ⊢
        rw [List.filter_cons, this]
        simp [e]
      have hg : get (y :: r) n = some y.2 := by simp [get, e]
      rw [hd, hg]
      simp
    · have hd : drop (y :: r) n = y :: drop r n := by simp [drop, e]
      have hg : get (y :: r) n = get r n := by simp [get, e]
      have := ih h2
      rw [hd, hg]
      simp only [List.length_cons] at this ⊢
      omega
theorem len_put {es : Files} (h : Rising es) (n : Name) (bs : List UInt8) : (put es n bs).length = es.length + (if (get es n).isSome then 0 else 1) := by
  have := len_drop h n
  rw [put, len_ins]
  split at this <;> rename_i hh <;> simp [hh] <;> omega

theorem get_len {es : Files} (h : Rising es) (n : Name) : ((get es n).getD []).length ≤ used es := by have := used_drop h n; omega

/-- One thing that is done: 0 an append, 1 a truncation, 2 a renaming, 3 a removal. -/
structure Change where
  kind : Nat
  name : ByteArray
  to : ByteArray
  bytes : List UInt8
  size : Nat

def nm (s : ByteArray) : Name := s.data.toList
theorem nm_inj {s t : ByteArray} (h : nm s = nm t) : s = t := by
  obtain ⟨⟨a⟩⟩ := s
  obtain ⟨⟨b⟩⟩ := t
  simp only [nm] at h
  rw [h]

def old (es : Files) (n : Name) : List UInt8 := (get es n).getD []
def doit (es : Files) (c : Change) : Files :=
  match c.kind with
  | 0 => put es (nm c.name) (old es (nm c.name) ++ c.bytes)
  | 1 => put es (nm c.name) ((old es (nm c.name)).take c.size)
  | 2 => put (drop es (nm c.name)) (nm c.to) (old es (nm c.name))
  | _ => drop es (nm c.name)

/-- may it be done to these? -/
def Change.fits (c : Change) (es : Files) : Prop := c.kind < 4 ∧ (c.kind = 1 → c.size ≤ (old es (nm c.name)).length)

theorem rising_doit {es : Files} (h : Rising es) (c : Change) : Rising (doit es c) := by
  unfold doit
  split
  · exact h.put _ _
  · exact h.put _ _
  · exact (h.drop _).put _ _
  · exact h.drop _

/-- only an append makes more bytes -/
theorem used_doit {es : Files} (h : Rising es) (c : Change) : used (doit es c) ≤ used es + (if c.kind = 0 then c.bytes.length else 0) := by
  have h0 := used_drop h (nm c.name)
  unfold doit
  split
  · rename_i e
    have := used_put h (nm c.name) (old es (nm c.name) ++ c.bytes)
    rw [List.length_append] at this
    unfold old at this
    rw [if_pos e]
    unfold old
    omega
  · have := used_put h (nm c.name) ((old es (nm c.name)).take c.size)
    rw [List.length_take] at this
    unfold old at this ⊢
    omega
  · have := used_put (h.drop (nm c.name)) (nm c.to) (old es (nm c.name))
    unfold old at this ⊢
    omega
  · omega

theorem used_append {es : Files} (h : Rising es) (c : Change) (e : c.kind = 0) : used (doit es c) = used es + c.bytes.length := by
  unfold doit
  rw [e]
  have := used_put h (nm c.name) (old es (nm c.name) ++ c.bytes)
  rw [List.length_append] at this
  unfold old at this ⊢
  simp only
  omega

def all (es : Files) (cs : List Change) : Files := cs.foldl doit es
theorem all_nil (es : Files) : all es [] = es := rfl
theorem all_cons (es : Files) (c : Change) (cs : List Change) : all es (c :: cs) = all (doit es c) cs := rfl
theorem all_snoc (es : Files) (cs : List Change) (c : Change) : all es (cs ++ [c]) = doit (all es cs) c := by simp [all, List.foldl_append]
theorem all_append (es : Files) (cs ds : List Change) : all es (cs ++ ds) = all (all es cs) ds := by simp [all, List.foldl_append]
theorem rising_all {es : Files} (h : Rising es) (cs : List Change) : Rising (all es cs) := by
  induction cs generalizing es with
  | nil => exact h
  | cons c cs ih => exact ih (rising_doit h c)

end Go.Proofs.YtpmmjihkgfmbhaaDoor.fs
