/- Files by their names, in plain lists that rise by the names; what is done to them; the bytes of all of them. No program is named here. The reference's files, as they are read, and find. Bytes as a text. What is asked of the project's Splitter: its calls, over whatever lies where. Cuts of a slice of bytes. A window: bytes at a place of a row of the call's own, with room behind; append onto it. -/
import Derived.Maps.Ext
import Derived.Test.YtpfpnlhihnfahaaDoorBaseM
import Derived.Maps.AppendAt
import Derived.Deep.AppendLies
import Derived.Deep.RegionHeld3
import Derived.OwnWalk
import Derived.RegionTactic
import Derived.Laws.BitsAllLaws
import Derived.IntWalk
import Derived.Deep.Upon

namespace Go.Proofs.YtpfpnlhihnfahaaDoor.fs
open Go.WideShapes
set_option linter.unusedVariables false

abbrev Name := List UInt8
abbrev Files := List (Name × List UInt8)

def bef (a b : Name) : Bool := (Lit.string a).before (.string b)
theorem bef_irrefl (a : Name) : bef a a = false := before_irrefl _
theorem bef_trans {a b c : Name} (h : bef a b = true) (k : bef b c = true) : bef a c = true := before_trans h k
theorem bef_total {a b : Name} (h : a ≠ b) : bef a b = true ∨ bef b a = true := Go.ChangeMaps.before_total ⟨a, rfl⟩ ⟨b, rfl⟩ (by intro e; cases e; exact h rfl)
theorem bef_ne {a b : Name} (h : bef a b = true) : a ≠ b := by rintro rfl; rw [bef_irrefl] at h; cases h

def Rising (es : Files) : Prop := es.Pairwise (fun p q => bef p.1 q.1 = true)
theorem rising_nil : Rising [] := List.Pairwise.nil
theorem Rising.apart {es : Files} (h : Rising es) : es.Pairwise (fun p q => p.1 ≠ q.1) := h.imp fun hb => bef_ne hb

theorem eq_of_mem : ∀ {l m : Files}, Rising l → Rising m → (∀ p, p ∈ l ↔ p ∈ m) → l = m
  | [], [], _, _, _ => rfl
  | [], b :: s, _, _, h => by have := (h b).2 (by simp); simp at this
  | a :: r, [], _, _, h => by have := (h a).1 (by simp); simp at this
  | a :: r, b :: s, h1, h2, h => by
    obtain ⟨a1, a2⟩ := List.pairwise_cons.1 h1
    obtain ⟨b1, b2⟩ := List.pairwise_cons.1 h2
    have hab : a = b := by
      rcases List.mem_cons.1 ((h a).1 (by simp)) with e | ha
      · exact e
      · rcases List.mem_cons.1 ((h b).2 (by simp)) with e | hb
        · exact e.symm
        · have := bef_trans (a1 b hb) (b1 a ha)
          rw [bef_irrefl] at this
          cases this
    subst hab
    rw [eq_of_mem a2 b2 (fun p => ⟨fun hp => by
      rcases List.mem_cons.1 ((h p).1 (by simp [hp])) with e | hp'
      · have := a1 p hp
        rw [e, bef_irrefl] at this
        cases this
      · exact hp', fun hp => by
      rcases List.mem_cons.1 ((h p).2 (by simp [hp])) with e | hp'
      · have := b1 p hp
        rw [e, bef_irrefl] at this
        cases this
      · exact hp'⟩)]

def ins (x : Name × List UInt8) : Files → Files
  | [] => [x]
  | y :: r => if bef x.1 y.1 then x :: y :: r else y :: ins x r
def drop (es : Files) (n : Name) : Files := es.filter fun p => !(p.1 == n)
def put (es : Files) (n : Name) (bs : List UInt8) : Files := ins (n, bs) (drop es n)
def get (es : Files) (n : Name) : Option (List UInt8) := (es.find? fun p => p.1 == n).map (·.2)
def used (es : Files) : Nat := (es.map fun p => p.2.length).sum

theorem mem_ins {x p : Name × List UInt8} : ∀ {es : Files}, p ∈ ins x es ↔ p = x ∨ p ∈ es
  | [] => by simp [ins]
  | y :: r => by
    unfold ins
    split
    · simp
    · simp only [List.mem_cons, mem_ins (es := r)]
      exact or_left_comm
theorem mem_drop {es : Files} {n : Name} {p : Name × List UInt8} : p ∈ drop es n ↔ p ∈ es ∧ p.1 ≠ n := by simp [drop]
theorem mem_put {es : Files} {n : Name} {bs : List UInt8} {p : Name × List UInt8} : p ∈ put es n bs ↔ p = (n, bs) ∨ (p ∈ es ∧ p.1 ≠ n) := by rw [put, mem_ins, mem_drop]

theorem rising_ins {x : Name × List UInt8} : ∀ {es : Files}, Rising es → (∀ p ∈ es, p.1 ≠ x.1) → Rising (ins x es)
  | [], _, _ => by simp [ins, Rising]
  | y :: r, h, hne => by
    obtain ⟨h1, h2⟩ := List.pairwise_cons.1 h
    unfold ins
    split
    · rename_i hb
      refine List.pairwise_cons.2 ⟨fun q hq => ?_, h⟩
      rcases List.mem_cons.1 hq with rfl | hq
      · exact hb
      · exact bef_trans hb (h1 q hq)
    · rename_i hb
      refine List.pairwise_cons.2 ⟨fun q hq => ?_, rising_ins h2 fun p hp => hne p (by simp [hp])⟩
      rcases mem_ins.1 hq with rfl | hq
      · rcases bef_total (hne y (by simp)) with e | e
        · exact e
        · exact absurd e hb
      · exact h1 q hq
theorem Rising.drop {es : Files} (h : Rising es) (n : Name) : Rising (drop es n) := List.Pairwise.filter _ h
theorem Rising.put {es : Files} (h : Rising es) (n : Name) (bs : List UInt8) : Rising (put es n bs) := rising_ins (h.drop n) fun p hp => (mem_drop.1 hp).2

theorem get_some {es : Files} (h : Rising es) {n : Name} {bs : List UInt8} : get es n = some bs ↔ (n, bs) ∈ es := by
  induction es with
  | nil => simp [get]
  | cons y r ih =>
    obtain ⟨h1, h2⟩ := List.pairwise_cons.1 h
    obtain ⟨a, b⟩ := y
    unfold get
    by_cases e : a = n
    · subst e
      simp only [List.find?_cons, beq_self_eq_true, Option.map_some, Option.some.injEq, List.mem_cons, Prod.mk.injEq, true_and]
      constructor
      · rintro rfl; exact .inl rfl
      · rintro (e | hm)
        · exact e.symm
        · exact absurd rfl (bef_ne (h1 (a, bs) hm))
    · have e' : (a == n) = false := by simpa using e
      simp only [List.find?_cons, e']
      have := ih h2
      unfold get at this
      rw [this]
      simp [Ne.symm e]
theorem get_none {es : Files} {n : Name} : get es n = none ↔ ∀ p ∈ es, p.1 ≠ n := by
  simp [get, List.find?_eq_none]

theorem get_put_same {es : Files} (h : Rising es) (n : Name) (bs : List UInt8) : get (put es n bs) n = some bs := (get_some (h.put n bs)).2 (mem_put.2 (.inl rfl))
theorem opt_ext {α : Type} {a b : Option α} (h : ∀ x, a = some x ↔ b = some x) : a = b := by
  cases a with
  | none => cases b with
    | none => rfl
    | some y => exact (h y).2 rfl
  | some y => exact ((h y).1 rfl).symm
theorem get_put_other {es : Files} (h : Rising es) {n m : Name} (hne : m ≠ n) (bs : List UInt8) : get (put es n bs) m = get es m := by
  refine opt_ext fun x => ?_
  rw [get_some (h.put n bs), get_some h, mem_put]
  simp [hne]
theorem get_drop_same {es : Files} (n : Name) : get (drop es n) n = none := get_none.2 fun p hp => (mem_drop.1 hp).2
theorem get_drop_other {es : Files} (h : Rising es) {n m : Name} (hne : m ≠ n) : get (drop es n) m = get es m := by
  refine opt_ext fun x => ?_
  rw [get_some (h.drop n), get_some h, mem_drop]
  simp [hne]
theorem drop_none {es : Files} {n : Name} (h : get es n = none) : drop es n = es := by
  unfold drop
  rw [List.filter_eq_self]
  intro p hp
  simpa using get_none.1 h p hp

theorem used_ins (x : Name × List UInt8) : ∀ es : Files, used (ins x es) = x.2.length + used es
  | [] => by simp [ins, used]
  | y :: r => by
    unfold ins
    split
    · simp [used]
    · have := used_ins x r
      simp only [used, List.map_cons, List.sum_cons] at this ⊢
      omega
theorem used_drop {es : Files} (h : Rising es) (n : Name) : used (drop es n) + ((get es n).getD []).length = used es := by
  induction es with
  | nil => simp [used, drop, get]
  | cons y r ih =>
    obtain ⟨h1, h2⟩ := List.pairwise_cons.1 h
    by_cases e : y.1 = n
    · have hn : get r n = none := get_none.2 fun p hp => by rw [← e]; exact (bef_ne (h1 p hp)).symm
      have hd : drop (y :: r) n = r := by
        have := drop_none hn
        unfold drop at this ⊢
        rw [List.filter_cons, this]
        simp [e]
      have hg : get (y :: r) n = some y.2 := by simp [get, e]
      rw [hd, hg]
      simp [used]
      omega
    · have hd : drop (y :: r) n = y :: drop r n := by simp [drop, e]
      have hg : get (y :: r) n = get r n := by simp [get, e]
      have := ih h2
      rw [hd, hg]
      simp only [used, List.map_cons, List.sum_cons] at this ⊢
      omega
theorem used_put {es : Files} (h : Rising es) (n : Name) (bs : List UInt8) : used (put es n bs) + ((get es n).getD []).length = used es + bs.length := by
  have := used_drop h n
  rw [put, used_ins]
  simp only
  omega

theorem len_ins (x : Name × List UInt8) : ∀ es : Files, (ins x es).length = es.length + 1
  | [] => rfl
  | y :: r => by
    unfold ins
    split
    · rfl
    · simp [len_ins x r]
theorem len_drop {es : Files} (h : Rising es) (n : Name) : (drop es n).length + (if (get es n).isSome then 1 else 0) = es.length := by
  induction es with
  | nil => simp [drop, get]
  | cons y r ih =>
    obtain ⟨h1, h2⟩ := List.pairwise_cons.1 h
    by_cases e : y.1 = n
    · have hn : get r n = none := get_none.2 fun p hp => by rw [← e]; exact (bef_ne (h1 p hp)).symm
      have hd : drop (y :: r) n = r := by
        have := drop_none hn
        unfold drop at this ⊢
        rw [List.filter_cons, this]
        simp [e]
      have hg : get (y :: r) n = some y.2 := by simp [get, e]
      rw [hd, hg]
      simp
    · have hd : drop (y :: r) n = y :: drop r n := by simp [drop, e]
      have hg : get (y :: r) n = get r n := by simp [get, e]
      have := ih h2
      rw [hd, hg]
      simp only [List.length_cons] at this ⊢
      omega
theorem len_put {es : Files} (h : Rising es) (n : Name) (bs : List UInt8) : (put es n bs).length = es.length + (if (get es n).isSome then 0 else 1) := by
  have := len_drop h n
  rw [put, len_ins]
  split at this <;> rename_i hh <;> simp [hh] <;> omega

theorem get_len {es : Files} (h : Rising es) (n : Name) : ((get es n).getD []).length ≤ used es := by have := used_drop h n; omega

/-- One thing that is done: 0 an append, 1 a truncation, 2 a renaming, 3 a removal. -/
structure Change where
  kind : Nat
  name : ByteArray
  to : ByteArray
  bytes : List UInt8
  size : Nat

def nm (s : ByteArray) : Name := s.data.toList
theorem nm_inj {s t : ByteArray} (h : nm s = nm t) : s = t := by
  obtain ⟨⟨a⟩⟩ := s
  obtain ⟨⟨b⟩⟩ := t
  simp only [nm] at h
  rw [h]

def old (es : Files) (n : Name) : List UInt8 := (get es n).getD []
def doit (es : Files) (c : Change) : Files :=
  match c.kind with
  | 0 => put es (nm c.name) (old es (nm c.name) ++ c.bytes)
  | 1 => put es (nm c.name) ((old es (nm c.name)).take c.size)
  | 2 => put (drop es (nm c.name)) (nm c.to) (old es (nm c.name))
  | _ => drop es (nm c.name)

/-- may it be done to these? -/
def Change.fits (c : Change) (es : Files) : Prop := c.kind < 4 ∧ (c.kind = 1 → c.size ≤ (old es (nm c.name)).length)

theorem rising_doit {es : Files} (h : Rising es) (c : Change) : Rising (doit es c) := by
  unfold doit
  split
  · exact h.put _ _
  · exact h.put _ _
  · exact (h.drop _).put _ _
  · exact h.drop _

/-- only an append makes more bytes -/
theorem used_doit {es : Files} (h : Rising es) (c : Change) : used (doit es c) ≤ used es + (if c.kind = 0 then c.bytes.length else 0) := by
  have h0 := used_drop h (nm c.name)
  unfold doit
  split
  · rename_i e
    have := used_put h (nm c.name) (old es (nm c.name) ++ c.bytes)
    rw [List.length_append] at this
    unfold old at this
    rw [if_pos e]
    unfold old
    omega
  · have := used_put h (nm c.name) ((old es (nm c.name)).take c.size)
    rw [List.length_take] at this
    unfold old at this ⊢
    omega
  · have := used_put (h.drop (nm c.name)) (nm c.to) (old es (nm c.name))
    unfold old at this ⊢
    omega
  · omega

theorem used_append {es : Files} (h : Rising es) (c : Change) (e : c.kind = 0) : used (doit es c) = used es + c.bytes.length := by
  unfold doit
  rw [e]
  have := used_put h (nm c.name) (old es (nm c.name) ++ c.bytes)
  rw [List.length_append] at this
  unfold old at this ⊢
  simp only
  omega

def all (es : Files) (cs : List Change) : Files := cs.foldl doit es
theorem all_nil (es : Files) : all es [] = es := rfl
theorem all_cons (es : Files) (c : Change) (cs : List Change) : all es (c :: cs) = all (doit es c) cs := rfl
theorem all_snoc (es : Files) (cs : List Change) (c : Change) : all es (cs ++ [c]) = doit (all es cs) c := by simp [all, List.foldl_append]
theorem all_append (es : Files) (cs ds : List Change) : all es (cs ++ ds) = all (all es cs) ds := by simp [all, List.foldl_append]
theorem rising_all {es : Files} (h : Rising es) (cs : List Change) : Rising (all es cs) := by
  induction cs generalizing es with
  | nil => exact h
  | cons c cs ih => exact ih (rising_doit h c)

end Go.Proofs.YtpfpnlhihnfahaaDoor.fs

namespace Go.Proofs.YtpfpnlhihnfahaaDoor.r2
open Go.RowKit Go.Maps Go.Proofs.YtpfpnlhihnfahaaDoor.sum Go.Proofs.YtpfpnlhihnfahaaDoor.kept Go.Proofs.YtpfpnlhihnfahaaDoor.app Go.Proofs.YtpfpnlhihnfahaaDoor.writer Go.Proofs.YtpfpnlhihnfahaaDoor.clone Go.Proofs.YtpfpnlhihnfahaaDoor.fs
set_option linter.unusedVariables false

/-- a file: its name, the slice, the bytes -/
abbrev Fv := ByteArray × Value × List UInt8
def files (l : List Fv) : Files := l.map fun q => (nm q.1, q.2.2)
def cells (l : List Fv) : List Value := l.flatMap fun q => [.string q.1, q.2.1]

theorem cells_append (l m : List Fv) : cells (l ++ m) = cells l ++ cells m := List.flatMap_append
theorem cells_length (l : List Fv) : (cells l).length = l.length * 2 := by
  induction l with
  | nil => rfl
  | cons q l ih =>
    show (Value.string q.1 :: q.2.1 :: cells l).length = _
    simp only [List.length_cons, ih]
    omega
theorem cells_at : ∀ (l : List Fv) (k : Nat) (h : k < l.length), (cells l)[k * 2]? = some (.string l[k].1) ∧ (cells l)[k * 2 + 1]? = some l[k].2.1
  | q :: l, 0, _ => ⟨rfl, rfl⟩
  | q :: l, k + 1, h => by
    have := cells_at l k (by simpa using h)
    refine ⟨?_, ?_⟩
    · show (Value.string q.1 :: q.2.1 :: cells l)[(k + 1) * 2]? = _
      rw [show (k + 1) * 2 = k * 2 + 1 + 1 by omega, List.getElem?_cons_succ, List.getElem?_cons_succ, this.1]
      rfl
    · show (Value.string q.1 :: q.2.1 :: cells l)[(k + 1) * 2 + 1]? = _
      rw [show (k + 1) * 2 + 1 = (k * 2 + 1) + 1 + 1 by omega, List.getElem?_cons_succ, List.getElem?_cons_succ, this.2]
      rfl

/-- where a name stands -/
def at? (l : List Fv) (n : ByteArray) : Option Nat := l.findIdx? fun q => decide (q.1 = n)
def place (l : List Fv) (n : ByteArray) : Int := match at? l n with | some k => (k : Int) | none => -1

theorem txt_ne {a b : ByteArray} (h : a ≠ b) : (a.toList == b.toList) = false := by
  rw [ByteArray.toList_eq, ByteArray.toList_eq]
  simp only [beq_eq_false_iff_ne, ne_eq]
  exact fun e => h (nm_inj e)

def FindRel (l : List Fv) (n : ByteArray) (w : World) (i : Value) (wr : World) : Prop := ∃ k : Nat, i = .int .i64 (k : Int) ∧ k ≤ l.length ∧ (∀ j (h : j < l.length), j < k → l[j].1 ≠ n) ∧ w = wr

theorem place_at {l : List Fv} {n : ByteArray} {k : Nat} (hk : k < l.length) (h : l[k].1 = n) (hb : ∀ j (h : j < l.length), j < k → l[j].1 ≠ n) : place l n = (k : Int) := by
  have : at? l n = some k := by
    unfold at?
    rw [List.findIdx?_eq_some_iff_getElem]
    exact ⟨hk, by simpa using h, fun j hj => by simpa using hb j (by omega) hj⟩
  unfold place
  rw [this]
theorem place_none {l : List Fv} {n : ByteArray} (hb : ∀ j (h : j < l.length), l[j].1 ≠ n) : place l n = -1 := by
  have : at? l n = none := by
    unfold at?
    rw [List.findIdx?_eq_none_iff]
    intro q hq
    obtain ⟨j, hj, rfl⟩ := List.getElem_of_mem hq
    simpa using hb j hj
  unfold place
  rw [this]

end Go.Proofs.YtpfpnlhihnfahaaDoor.r2

namespace Go.Proofs.YtpfpnlhihnfahaaDoor.snp
open Go.RowKit Go.Maps Go.Proofs.YtpfpnlhihnfahaaDoor.sum Go.Proofs.YtpfpnlhihnfahaaDoor.kept Go.Proofs.YtpfpnlhihnfahaaDoor.app Go.Proofs.YtpfpnlhihnfahaaDoor.writer Go.Proofs.YtpfpnlhihnfahaaDoor.clone Go.Proofs.YtpfpnlhihnfahaaDoor.known Go.Proofs.YtpfpnlhihnfahaaDoor.fs Go.Proofs.YtpfpnlhihnfahaaDoor.r2
set_option linter.unusedVariables false

/-- bytes as a text -/
def tx (l : List UInt8) : ByteArray := ⟨l.toArray⟩
theorem tx_ne {a b : List UInt8} (h : a ≠ b) : ((tx a).toList == (tx b).toList) = false := txt_ne fun e => h (by
  have := congrArg ByteArray.toList e
  simpa [tx, ByteArray.toList_eq] using this)
theorem conv_tx {w : World} {v : Value} {bs : List UInt8} (h : Bs w v bs) : (convert 30 9 v).run Tryd.prog w = .ok (.string (tx bs)) w := conv_bs h

end Go.Proofs.YtpfpnlhihnfahaaDoor.snp

namespace Go.Proofs.YtpfpnlhihnfahaaDoor.spl
open Go.RowKit Go.Maps Go.Proofs.YtpfpnlhihnfahaaDoor.sum Go.Proofs.YtpfpnlhihnfahaaDoor.kept Go.Proofs.YtpfpnlhihnfahaaDoor.app Go.Proofs.YtpfpnlhihnfahaaDoor.writer Go.Proofs.YtpfpnlhihnfahaaDoor.clone Go.Proofs.YtpfpnlhihnfahaaDoor.known Go.Proofs.YtpfpnlhihnfahaaDoor.snp
set_option linter.unusedVariables false

/-- where it lies: the world, the base, its pointer, which blocks are its own, its most, its state -/
abbrev SpT := World → Nat → Nat → (Nat → Bool) → Nat → SpS → Prop
/-- only its own blocks are turned; what was not its own is not -/
def FrS (ρ : Nat → Bool) (w : World) (ρ' : Nat → Bool) (w' : World) : Prop := Kp (fun k => ρ k = true) w w' ∧ ∀ k, k < w.heap.size → ρ k = false → ρ' k = false
theorem FrS.trans {ρ ρ' ρ'' : Nat → Bool} {w w' w'' : World} (h : FrS ρ w ρ' w') (k : FrS ρ' w' ρ'' w'') : FrS ρ w ρ'' w'' := by
  refine ⟨h.1.trans k.1 fun i hi e => ?_, fun i hi e => k.2 i (Nat.lt_of_lt_of_le hi h.1.size) (h.2 i hi e)⟩
  cases hρ : ρ i with
  | true => rfl
  | false =>
    have e2 := h.2 i hi hρ
    have e3 : ρ' i = true := e
    rw [e3] at e2; cases e2
theorem FrS.refl (ρ : Nat → Bool) (w : World) : FrS ρ w ρ w := ⟨Kp.refl _ _, fun _ _ h => h⟩
theorem FrS.of_no {ρ : Nat → Bool} {w w' : World} (h : Kp No w w') : FrS ρ w ρ w' := ⟨h.to, fun _ _ h => h⟩

/-- what a call leaves -/
def SpPost (Sp : SpT) (w : World) (base p : Nat) (ρ : Nat → Bool) (m : Nat) (t : SpS) (res : Value) (e : Ending) (w' : World) : Prop := e = .returned res ∧ ∃ ρ', Sp w' base p ρ' m t ∧ FrS ρ w ρ' w'
def ansV (o : Option (List UInt8)) : Value := .tuple #[.string (tx (o.getD [])), .bool o.isSome]

structure SplitC (Sp : SpT) : Prop where
  kept : ∀ {S : Nat → Prop} {w w' : World} {base p : Nat} {ρ : Nat → Bool} {m : Nat} {s : SpS}, Sp w base p ρ m s → Kp S w w' → (∀ k, ρ k = true → ¬ S k) → Sp w' base p ρ m s
  low : ∀ {w : World} {base p : Nat} {ρ : Nat → Bool} {m : Nat} {s : SpS}, Sp w base p ρ m s → ∀ k, ρ k = true → base ≤ k ∧ k < w.heap.size
  new_ok : ∀ (w : World) (m : Nat), 1 ≤ m → m ≤ 200 → Calls Tryd.prog 7 #[.int .i64 (m : Int)] w fun e w' => ∃ p ρ, e = .returned (.tuple #[.pointer (some ⟨p, 0, none⟩), .int .i64 0]) ∧ Sp w' w.heap.size p ρ m zeroS ∧ Kp No w w'
  feed : ∀ (w : World) (base p : Nat) (ρ : Nat → Bool) (m : Nat) (s : SpS) (v : Value) (bs : List UInt8), Sp w base p ρ m s → Bs w v bs → (bs ≠ [] → ∀ x o n c, v = .slice (some ⟨x, o, none⟩) n c → ρ x = false) → s.rest.length + bs.length ≤ 140737488355328 →
    Calls Tryd.prog 10 #[.pointer (some ⟨p, 0, none⟩), v] w (SpPost Sp w base p ρ m (feedS s bs) (.tuple #[]))
  next : ∀ (w : World) (base p : Nat) (ρ : Nat → Bool) (m : Nat) (s : SpS) (rs : List UInt8), Sp w base p ρ m s → OkS m s → m ≤ 200 → s.rest.length ≤ 140737488355328 → rs.length ≤ maxLen →
    Calls Tryd.prog 11 #[.pointer (some ⟨p, 0, none⟩), .string (tx rs)] w (SpPost Sp w base p ρ m (nextS m rs s).2 (ansV (nextS m rs s).1))
  last : ∀ (w : World) (base p : Nat) (ρ : Nat → Bool) (m : Nat) (s : SpS) (rs : List UInt8), Sp w base p ρ m s → OkS m s → m ≤ 200 → s.rest.length ≤ 140737488355328 → rs.length ≤ maxLen →
    Calls Tryd.prog 14 #[.pointer (some ⟨p, 0, none⟩), .string (tx rs)] w (SpPost Sp w base p ρ m (lastS m rs s).2 (ansV (lastS m rs s).1))

theorem SplitC.no {Sp : SpT} (C : SplitC Sp) {w w' : World} {base p : Nat} {ρ : Nat → Bool} {m : Nat} {s : SpS} (h : Sp w base p ρ m s) (hk : Kp No w w') : Sp w' base p ρ m s := C.kept h hk fun _ _ => id

end Go.Proofs.YtpfpnlhihnfahaaDoor.spl

namespace Go.Proofs.YtpfpnlhihnfahaaDoor.unseal
open Go.RowKit Go.Proofs.YtpfpnlhihnfahaaDoor.sum Go.Proofs.YtpfpnlhihnfahaaDoor.kept Go.Proofs.YtpfpnlhihnfahaaDoor.app Go.Proofs.YtpfpnlhihnfahaaDoor.writer Go.Proofs.YtpfpnlhihnfahaaDoor.clone Go.Proofs.YtpfpnlhihnfahaaDoor.known
set_option linter.unusedVariables false

/-- behind a draw everything reads as before -/
theorem bs_drewN {w : World} {v : Value} {bs : List UInt8} (n : Nat) (h : Bs w v bs) : Bs (w.drewN n) v bs := bs_no h ((Kp.refl _ _).drewN n)

/-- a cut of a slice of bytes -/
theorem bs_take {w : World} {b : Option Addr} {len cap : Nat} {bs : List UInt8} (h : Bs w (.slice b len cap) bs) (k : Nat) (hk : k ≤ len) : Bs w (.slice b k cap) (bs.take k) := by
  obtain ⟨a, c, e, h1, h2, h3⟩ := h
  simp only [Value.slice.injEq] at e
  obtain ⟨rfl, rfl, rfl⟩ := e
  refine ⟨b, cap, by rw [List.length_take, Nat.min_eq_left hk], by rw [List.length_take]; omega, h2, fun hne => ?_⟩
  obtain ⟨B, o, rfl, hc⟩ := h3 (by intro e; subst e; simp at hne)
  refine ⟨B, o, rfl, fun i hi => ?_⟩
  rw [List.length_take] at hi
  rw [hc i (by omega)]
  simp [List.getD, show i < k by omega]

theorem bs_drop {w : World} {b o len cap : Nat} {bs : List UInt8} (h : Bs w (.slice (some ⟨b, o, none⟩) len cap) bs) (k : Nat) (hk : k ≤ len) (ao : Option Addr) (hao : ¬ k = cap → ao = some ⟨b, o + k, none⟩) : Bs w (.slice ao (len - k) (cap - k)) (bs.drop k) := by
  obtain ⟨a, c, e, h1, h2, h3⟩ := h
  simp only [Value.slice.injEq] at e
  obtain ⟨rfl, rfl, rfl⟩ := e
  refine ⟨ao, _, by rw [List.length_drop], by rw [List.length_drop]; omega, by omega, fun hne => ?_⟩
  have hlt : k < bs.length := by
    rcases Nat.lt_or_ge k bs.length with h | h
    · exact h
    · rw [List.drop_of_length_le h] at hne; exact absurd rfl hne
  obtain ⟨B, o', e, hc⟩ := h3 (by intro e; subst e; simp at hlt)
  cases e
  refine ⟨_, _, hao (by omega), fun i hi => ?_⟩
  rw [List.length_drop] at hi
  rw [Nat.add_assoc, hc (k + i) (by omega)]
  simp [List.getD]

end Go.Proofs.YtpfpnlhihnfahaaDoor.unseal

namespace Go.Proofs.YtpfpnlhihnfahaaDoor.spl
open Go.RowKit Go.Maps Go.Proofs.YtpfpnlhihnfahaaDoor.sum Go.Proofs.YtpfpnlhihnfahaaDoor.kept Go.Proofs.YtpfpnlhihnfahaaDoor.app Go.Proofs.YtpfpnlhihnfahaaDoor.unseal
set_option linter.unusedVariables false

/-- bytes at a place of a row of the call's own, which may be written on behind them -/
def Wi (w : World) (base : Nat) (v : Value) (bs : List UInt8) : Prop :=
  (v = .slice none 0 0 ∧ bs = []) ∨ ∃ g o cap, v = .slice (some ⟨g, o, none⟩) bs.length cap ∧ base ≤ g ∧ g < w.heap.size ∧ bs.length ≤ cap ∧ cap ≤ maxLen ∧
    (∀ k, k < bs.length → w.cell? ⟨g, o + k, none⟩ = some (B (bs.getD k 0))) ∧ ∀ k, k < cap → (w.cell? ⟨g, o + k, none⟩).isSome = true ∧ w.frozen? ⟨g, o + k, none⟩ = false

section
variable {w w' : World} {base : Nat} {v : Value} {bs : List UInt8}
theorem Wi.nil (w : World) (base : Nat) : Wi w base (.slice none 0 0) [] := .inl ⟨rfl, rfl⟩
theorem Wi.rd (h : Wi w base v bs) : Bs w v bs := by
  rcases h with ⟨rfl, rfl⟩ | ⟨g, o, cap, rfl, -, -, h1, h2, h3, -⟩
  · exact ⟨none, 0, rfl, Nat.le_refl _, Nat.zero_le _, fun h => absurd rfl h⟩
  · exact ⟨_, cap, rfl, h1, h2, fun _ => ⟨g, o, rfl, h3⟩⟩
theorem Wi.any (h : Wi w base v bs) : ∃ a cap, v = .slice a bs.length cap ∧ bs.length ≤ cap ∧ cap ≤ 9223372036854775807 ∧ ∀ k, v.ownBlock = some k → base ≤ k ∧ k < w.heap.size := by
  rcases h with ⟨rfl, rfl⟩ | ⟨g, o, cap, rfl, h4, h5, h1, h2, h3, -⟩
  · exact ⟨none, 0, rfl, Nat.le_refl _, by decide, fun k h => by simp [Value.ownBlock] at h⟩
  · exact ⟨_, cap, rfl, h1, by unfold maxLen at h2; omega, fun k h => by simp [Value.ownBlock] at h; omega⟩
theorem Wi.lt (h : Wi w base v bs) : ∀ k, v.ownBlock = some k → base ≤ k ∧ k < w.heap.size := by obtain ⟨a, cap, -, -, -, h⟩ := h.any; exact h
theorem Wi.kept {S : Nat → Prop} (h : Wi w base v bs) (hk : Kp S w w') (hn : ∀ k, v.ownBlock = some k → ¬ S k) : Wi w' base v bs := by
  rcases h with h | ⟨g, o, cap, rfl, h4, h5, h1, h2, h3, h6⟩
  · exact .inl h
  · have hS := hn g rfl
    refine .inr ⟨g, o, cap, rfl, h4, Nat.lt_of_lt_of_le h5 hk.size, h1, h2, fun k hlt => hk.cell' (h3 k hlt) hS, fun k hlt => ?_⟩
    rw [hk.cell (p := ⟨g, o + k, none⟩) h5 hS, hk.frozen (p := ⟨g, o + k, none⟩) h5 hS]
    exact h6 k hlt
theorem Wi.no (h : Wi w base v bs) (hk : Kp No w w') : Wi w' base v bs := h.kept hk fun _ _ => id
theorem Wi.of_owns (h : w.ownsRow base 5 1 v bs.length (bs.map B)) : Wi w base v bs := by
  rcases h.2 with ⟨rfl, h0⟩ | ⟨g, cap, cur, rfl, hb, hg, h1, h2, h3, h4⟩
  · exact .inl ⟨rfl, List.eq_nil_of_length_eq_zero h0⟩
  · refine .inr ⟨g, 0, cap, rfl, hb, (Array.getElem?_eq_some_iff.1 hg).1, h1, h2, fun k hk => ?_, fun k hk => ?_⟩
    · have := h.cells (g := g) rfl k (B (bs.getD k 0)) (by simp [List.getD, hk])
      rwa [addr_add] at this
    · rw [cell_of_row w g _ cur _ (0, 0) hg]
      have : k < cur.size := by omega
      refine ⟨by simpa using this, ?_⟩
      simp [World.frozen?, hg]
/-- its first bytes -/
theorem Wi.take {a : Option Addr} {n cap : Nat} (h : Wi w base (.slice a n cap) bs) (k : Nat) (hk : k ≤ n) : Wi w base (.slice a k cap) (bs.take k) := by
  rcases h with ⟨e, rfl⟩ | ⟨g, o, c, e, h4, h5, h1, h2, h3, h6⟩
  · cases e
    obtain rfl : k = 0 := by omega
    exact .inl ⟨rfl, by simp⟩
  · simp only [Value.slice.injEq] at e
    obtain ⟨rfl, rfl, rfl⟩ := e
    have hl : (bs.take k).length = k := by simp; omega
    refine .inr ⟨g, o, cap, by rw [hl], h4, h5, by omega, h2, fun j hj => ?_, h6⟩
    rw [hl] at hj
    rw [h3 j (by omega)]
    simp [List.getD, hj]
/-- without its first byte -/
theorem Wi.tail {g o cap : Nat} {b : UInt8} {q : List UInt8} (h : Wi w base (.slice (some ⟨g, o, none⟩) (q.length + 1) cap) (b :: q)) :
    Wi w base (if cap = 1 then .slice (some ⟨g, o, none⟩) q.length 0 else .slice (some ⟨g, o + 1, none⟩) q.length (cap - 1)) q := by
  rcases h with ⟨e, -⟩ | ⟨g2, o2, c, e, h4, h5, h1, h2, h3, h6⟩
  · cases e
  · simp only [Value.slice.injEq] at e
    obtain ⟨e1, -, rfl⟩ := e
    cases e1
    simp only [List.length_cons] at h1 h3
    by_cases hc : cap = 1
    · rw [if_pos hc]
      obtain rfl : q = [] := List.eq_nil_of_length_eq_zero (by omega)
      exact .inr ⟨g, o, 0, rfl, h4, h5, Nat.le_refl _, Nat.zero_le _, fun k hk => by simp at hk, fun k hk => by omega⟩
    · rw [if_neg hc]
      refine .inr ⟨g, o + 1, cap - 1, rfl, h4, h5, by omega, by omega, fun k hk => ?_, fun k hk => ?_⟩
      · rw [show o + 1 + k = o + (k + 1) by omega, h3 (k + 1) (by omega)]
        rfl
      · rw [show o + 1 + k = o + (k + 1) by omega]
        exact h6 (k + 1) (by omega)
end

theorem bs_src {w : World} {v : Value} {cs : List UInt8} (h : Bs w v cs) : Src Tryd.prog 1 30 v cs.length (cs.map B) w := by
  obtain ⟨a, cap, rfl, h1, h2, h3⟩ := h
  by_cases hc : cs = []
  · subst hc
    cases a with
    | none => exact Src.ofNil w Tryd.underlying30 cap
    | some a => exact Src.ofSlice w Tryd.underlying30 a 0 cap [] rfl (fun j u h => by simp at h) (fun u h => by simp at h)
  · obtain ⟨b, o, rfl, hh⟩ := h3 hc
    refine Src.ofSlice w Tryd.underlying30 _ _ cap _ (by simp) (fun j u hu => ?_) (fun u hu => by obtain ⟨_, _, rfl⟩ := List.mem_map.1 hu; rfl)
    rw [addr_add]
    have hj : j < cs.length := by simpa using (List.getElem?_eq_some_iff.1 hu).1
    rw [hh j hj]
    simpa [List.getD, hj] using hu

theorem getD_append (bs cs : List UInt8) (k : Nat) : (bs ++ cs).getD k 0 = if k < bs.length then bs.getD k 0 else cs.getD (k - bs.length) 0 := by
  simp only [List.getD]
  split
  · next h => rw [List.getElem?_append_left h]
  · next h => rw [List.getElem?_append_right (by omega)]

/-- what append leaves -/
def WApp (base : Nat) (w : World) (v : Value) (bs cs : List UInt8) (v' : Value) (w' : World) : Prop :=
  Wi w' base v' (bs ++ cs) ∧ Kp (fun k => v.ownBlock = some k) w w' ∧ (v'.ownBlock = v.ownBlock ∨ v'.ownBlock = some w.heap.size)

theorem run_append_wi (w : World) (ty : TypeId) (base : Nat) (v : Value) (bs : List UInt8) (hv : Wi w base v bs) (xv : Value) (cs : List UInt8) (hx : Bs w xv cs)
    (hb : bs.length + cs.length ≤ 140737488355328) (hbase : base ≤ w.heap.size) :
    ∃ v' w', (Builtin.append_ #[30, 30] ty #[v, xv]).run Tryd.prog w = .ok v' w' ∧ WApp base w v bs cs v' w' := by
  obtain ⟨i0, hi, hz0, hz1, hz2⟩ := info_parts info5
  have hS : Src Tryd.prog i0.size 30 xv cs.length (cs.map B) w := by rw [hz1]; exact bs_src hx
  have hn0 : bs.length + cs.length ≤ maxLen := by unfold maxLen; omega
  -- behind a growing append
  have grown : ∀ (olds : List Value), olds = bs.map B → ∀ sCap, sCap < bs.length + cs.length →
      WApp base w v bs cs (.slice (some ⟨w.heap.size, 0, none⟩) (bs.length + cs.length) (grownCap w (bs.length + cs.length) sCap 5)) (w.drew.alloc (.cells ((olds ++ cs.map B).toArray ++ Builtin.zeroCells (Value.int IntKind.u8 0).cells (grownCap w (bs.length + cs.length) sCap 5 - (bs.length + cs.length))) 5)) := by
    intro olds ho sCap hs
    subst ho
    have hge := grownCap_ge w (bs.length + cs.length) sCap 5
    have hcm := grownCap_le_maxLen w (bs.length + cs.length) sCap 5 hn0
    obtain ⟨c, hc⟩ : ∃ c, grownCap w (bs.length + cs.length) sCap 5 = c := ⟨_, rfl⟩
    rw [hc] at hge hcm ⊢
    have hsz : ((bs.map B ++ cs.map B).toArray ++ Builtin.zeroCells (Value.int IntKind.u8 0).cells (c - (bs.length + cs.length))).size = c := by
      simp [size_zeroCells, Value.cells]
      omega
    refine ⟨.inr ⟨w.heap.size, 0, c, by rw [List.length_append], hbase, by simp, by rw [List.length_append]; exact hge, hcm, fun k hk => ?_, fun k hk => ?_⟩, (Kp.refl _ _).drew.alloc _, .inr rfl⟩
    · have hg := heap_alloc_new w.drew (.cells ((bs.map B ++ cs.map B).toArray ++ Builtin.zeroCells (Value.int IntKind.u8 0).cells (c - (bs.length + cs.length))) 5)
      rw [cell_of_row _ w.heap.size _ _ _ (0, 0) hg]
      rw [Array.getElem?_append_left (by simpa using hk)]
      simp only [Nat.zero_add, List.getElem?_toArray, ← List.map_append, List.getElem?_map, List.getD]
      rw [List.getElem?_eq_getElem hk]
      rfl
    · have hg := heap_alloc_new w.drew (.cells ((bs.map B ++ cs.map B).toArray ++ Builtin.zeroCells (Value.int IntKind.u8 0).cells (c - (bs.length + cs.length))) 5)
      rw [cell_of_row _ w.heap.size _ _ _ (0, 0) hg]
      refine ⟨?_, ?_⟩
      · rw [Array.getElem?_eq_getElem (by rw [hsz]; omega)]
        rfl
      · have hg' : (w.drew.alloc (.cells ((bs.map B ++ cs.map B).toArray ++ Builtin.zeroCells (Value.int IntKind.u8 0).cells (c - (bs.length + cs.length))) 5)).heap[w.heap.size]? = _ := hg
        simp only [World.frozen?, hg']
        simp
  rcases hv with ⟨rfl, rfl⟩ | ⟨g, o, cap, rfl, h4, h5, h1, h2, h3, h6⟩
  · by_cases hc : cs = []
    · subst hc
      refine ⟨_, w, ?_, .inl ⟨rfl, rfl⟩, Kp.refl _ _, .inl rfl⟩
      exact run_append_nothing w 30 30 ty 5 i0 Tryd.underlying30 hi none 0 0 (Nat.le_refl _) xv hS
    · have hcl := List.length_pos_iff.2 hc
      have hgr := run_append_grow_src (P := Tryd.prog) w 30 30 ty 5 i0 (.int .u8 0) Tryd.underlying30 hi hz0 none 0 0 [] (run_firstCells_none w.drew i0.size 0 0 0) xv cs.length _ hS (by omega) (by omega)
        (by rw [hz2]; exact growslice_fits (by omega) (by simp at hb ⊢; omega))
      have := grown [] rfl 0 (by simpa using hcl)
      simp only [List.length_nil, Nat.zero_add] at hgr this
      exact ⟨_, _, hgr, this⟩
  · by_cases hroom : bs.length + cs.length ≤ cap
    · have hrm := run_append_room_src (P := Tryd.prog) w 30 30 ty 5 i0 Tryd.underlying30 hi g o bs.length cap xv cs.length _ hS hroom
        (fun j hj => by
          have hj' : j < cs.length := by simpa using hj
          rw [hz1, Nat.mul_one, Nat.add_assoc]
          exact (h6 (bs.length + j) (by omega)).1)
        (fun j hj => by
          have hj' : j < cs.length := by simpa using hj
          rw [hz1, Nat.mul_one, Nat.add_assoc]
          exact (h6 (bs.length + j) (by omega)).2)
      rw [hz1, Nat.mul_one] at hrm
      have hthere : ∀ j, j < (cs.map B).length → (w.cell? ⟨g, o + bs.length + j, none⟩).isSome = true := fun j hj => by
        have hj' : j < cs.length := by simpa using hj
        rw [Nat.add_assoc]
        exact (h6 (bs.length + j) (by omega)).1
      have hsz : (w.setCells g (o + bs.length) (cs.map B)).heap.size = w.heap.size := by
        have : ∀ (vs : List Value) (o : Nat) (w : World), (w.setCells g o vs).heap.size = w.heap.size := by
          intro vs
          induction vs with
          | nil => intro o w; rfl
          | cons v vs ih => intro o w; simp only [World.setCells]; rw [ih]; simp [World.setCell]
        exact this _ _ _
      have htape : (w.setCells g (o + bs.length) (cs.map B)).tape = w.tape := by
        have : ∀ (vs : List Value) (o : Nat) (w : World), (w.setCells g o vs).tape = w.tape := by
          intro vs
          induction vs with
          | nil => intro o w; rfl
          | cons v vs ih => intro o w; simp only [World.setCells]; rw [ih]; rfl
        exact this _ _ _
      refine ⟨_, _, hrm, .inr ⟨g, o, cap, by rw [List.length_append], h4, by rw [hsz]; exact h5, by rw [List.length_append]; exact hroom, h2, fun k hk => ?_, fun k hk => ?_⟩, ⟨World.os_setCells .., htape, World.output_setCells .., by rw [hsz]; exact Nat.le_refl _, fun k hk hn => World.heap_setCells_other _ _ _ _ hk (fun e => hn (by rw [e]; rfl))⟩, .inl rfl⟩
      · rw [getD_append]
        split
        · next h => rw [World.cell?_setCells_out g (cs.map B) (o + bs.length) w ⟨g, o + k, none⟩ (fun _ _ => .inl (by simp only; omega))]; exact h3 k h
        · next h =>
          have hk' : k - bs.length < cs.length := by rw [List.length_append] at hk; omega
          have := World.cell?_setCells_in g (cs.map B) (o + bs.length) w hthere (k - bs.length) (by simpa using hk')
          rw [show o + bs.length + (k - bs.length) = o + k by omega] at this
          rw [this]
          simp [List.getD, hk']
      · rw [World.frozen?_setCells]
        refine ⟨?_, (h6 k hk).2⟩
        by_cases hin : bs.length ≤ k ∧ k < bs.length + cs.length
        · have := World.cell?_setCells_in g (cs.map B) (o + bs.length) w hthere (k - bs.length) (by simp; omega)
          rw [show o + bs.length + (k - bs.length) = o + k by omega] at this
          rw [this]
          rfl
        · rw [World.cell?_setCells_out g (cs.map B) (o + bs.length) w ⟨g, o + k, none⟩ (fun _ _ => by simp; omega)]
          exact (h6 k hk).1
    · have hgr := run_append_grow_src (P := Tryd.prog) w 30 30 ty 5 i0 (.int .u8 0) Tryd.underlying30 hi hz0 (some ⟨g, o, none⟩) bs.length cap (bs.map B)
          (run_firstCells_some w.drew i0.size bs.length ⟨g, o, none⟩ bs.length cap _ (by rw [hz1]; simp) (fun j u hu => by
            rw [addr_add]
            have hj : j < bs.length := by simpa using (List.getElem?_eq_some_iff.1 hu).1
            have := h3 j hj
            rw [show w.drew.cell? ⟨g, o + j, none⟩ = w.cell? ⟨g, o + j, none⟩ from rfl, this]
            simpa [List.getD, hj] using hu)) xv cs.length _ hS (by omega) (by omega) (by rw [hz2]; exact growslice_fits (by omega) (by omega))
      exact ⟨_, _, hgr, grown _ rfl cap (by omega)⟩

theorem wpList_append_wi (w : World) {ops : Array Oper} {rest : List Oper} {o : Oper} {a : Act} {Q : Exit → Act → World → Prop} (hgd : o.guard = none) (s x : Operand)
    (ho : o.op = .call { callee := .builtin .append, args := #[s, x], argTypes := #[30, 30] })
    (base : Nat) (v : Value) (bs : List UInt8) (hs : a.eval s = v) (hown : Wi w base v bs) (xv : Value) (cs : List UInt8) (hx : a.eval x = xv) (hxs : Bs w xv cs)
    (hb : bs.length + cs.length ≤ 140737488355328) (hbase : base ≤ w.heap.size)
    (h : ∀ v' w', WApp base w v bs cs v' w' → wpList Tryd.prog ops Q rest (a.put o.dst v') w') :
    wpList Tryd.prog ops Q (o :: rest) a w := by
  refine wpList_plain hgd fun K hK => ?_
  obtain ⟨v', w', hr, h2⟩ := run_append_wi w o.type base v bs hown xv cs hxs hb hbase
  unfold Oper.wp execOp
  simp only [ho, resolve, invoke, builtin, Sem.run_bind, Sem.run_pure, Result.andThen_ok, List.map_toArray, List.map_cons, List.map_nil, hs, hx, hr]
  exact hK _ _ (h v' w' h2)

end Go.Proofs.YtpfpnlhihnfahaaDoor.spl
