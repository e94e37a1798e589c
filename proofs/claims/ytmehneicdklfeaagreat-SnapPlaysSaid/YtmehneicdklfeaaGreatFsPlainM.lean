/- Files by their names, in plain lists that rise by the names; what is done to them; the bytes of all of them. No program is named here. The reference's files, as they are read, and find. The reference's without. -/
import Derived.Maps.Ext
import Derived.Test.YtmehneicdklfeaaGreatBaseM
import Derived.Maps.AppendAt
import Derived.Deep.AppendLies
import Derived.Deep.RegionHeld3

namespace Go.Proofs.YtmehneicdklfeaaGreat.fs
open Go.WideShapes
set_option linter.unusedVariables false

abbrev Name := List UInt8
abbrev Files := List (Name × List UInt8)

def bef (a b : Name) : Bool := (Lit.string a).before (.string b)
theorem bef_irrefl (a : Name) : bef a a = false := before_irrefl _
theorem bef_trans {a b c : Name} (h : bef a b = true) (k : bef b c = true) : bef a c = true := before_trans h k
theorem bef_total {a b : Name} (h : a ≠ b) : bef a b = true ∨ bef b a = true := Go.ChangeMaps.before_total ⟨a, rfl⟩ ⟨b, rfl⟩ (by intro e; cases e; exact h rfl)
theorem bef_ne {a b : Name} (h : bef a b = true) : a ≠ b := by rintro rfl; rw [bef_irrefl] at h; cases h

def Rising (es : Files) : Prop := es.Pairwise (fun p q => bef p.1 q.1 = true)
theorem rising_nil : Rising [] := List.Pairwise.nil
theorem Rising.apart {es : Files} (h : Rising es) : es.Pairwise (fun p q => p.1 ≠ q.1) := h.imp fun hb => bef_ne hb

theorem eq_of_mem : ∀ {l m : Files}, Rising l → Rising m → (∀ p, p ∈ l ↔ p ∈ m) → l = m
  | [], [], _, _, _ => rfl
  | [], b :: s, _, _, h => by have := (h b).2 (by simp); simp at this
  | a :: r, [], _, _, h => by have := (h a).1 (by simp); simp at this
  | a :: r, b :: s, h1, h2, h => by
    obtain ⟨a1, a2⟩ := List.pairwise_cons.1 h1
    obtain ⟨b1, b2⟩ := List.pairwise_cons.1 h2
    have hab : a = b := by
      rcases List.mem_cons.1 ((h a).1 (by simp)) with e | ha
      · exact e
      · rcases List.mem_cons.1 ((h b).2 (by simp)) with e | hb
        · exact e.symm
        · have := bef_trans (a1 b hb) (b1 a ha)
          rw [bef_irrefl] at this
          cases this
    subst hab
    rw [eq_of_mem a2 b2 (fun p => ⟨fun hp => by
      rcases List.mem_cons.1 ((h p).1 (by simp [hp])) with e | hp'
      · have := a1 p hp
        rw [e, bef_irrefl] at this
        cases this
      · exact hp', fun hp => by
      rcases List.mem_cons.1 ((h p).2 (by simp [hp])) with e | hp'
      · have := b1 p hp
        rw [e, bef_irrefl] at this
        cases this
      · exact hp'⟩)]

def ins (x : Name × List UInt8) : Files → Files
  | [] => [x]
  | y :: r => if bef x.1 y.1 then x :: y :: r else y :: ins x r
def drop (es : Files) (n : Name) : Files := es.filter fun p => !(p.1 == n)
def put (es : Files) (n : Name) (bs : List UInt8) : Files := ins (n, bs) (drop es n)
def get (es : Files) (n : Name) : Option (List UInt8) := (es.find? fun p => p.1 == n).map (·.2)
def used (es : Files) : Nat := (es.map fun p => p.2.length).sum

theorem mem_ins {x p : Name × List UInt8} : ∀ {es : Files}, p ∈ ins x es ↔ p = x ∨ p ∈ es
  | [] => by simp [ins]
  | y :: r => by
    unfold ins
    split
    · simp
    · simp only [List.mem_cons, mem_ins (es := r)]
      exact or_left_comm
theorem mem_drop {es : Files} {n : Name} {p : Name × List UInt8} : p ∈ drop es n ↔ p ∈ es ∧ p.1 ≠ n := by simp [drop]
theorem mem_put {es : Files} {n : Name} {bs : List UInt8} {p : Name × List UInt8} : p ∈ put es n bs ↔ p = (n, bs) ∨ (p ∈ es ∧ p.1 ≠ n) := by rw [put, mem_ins, mem_drop]

theorem rising_ins {x : Name × List UInt8} : ∀ {es : Files}, Rising es → (∀ p ∈ es, p.1 ≠ x.1) → Rising (ins x es)
  | [], _, _ => by simp [ins, Rising]
  | y :: r, h, hne => by
    obtain ⟨h1, h2⟩ := List.pairwise_cons.1 h
    unfold ins
    split
    · rename_i hb
      refine List.pairwise_cons.2 ⟨fun q hq => ?_, h⟩
      rcases List.mem_cons.1 hq with rfl | hq
      · exact hb
      · exact bef_trans hb (h1 q hq)
    · rename_i hb
      refine List.pairwise_cons.2 ⟨fun q hq => ?_, rising_ins h2 fun p hp => hne p (by simp [hp])⟩
      rcases mem_ins.1 hq with rfl | hq
      · rcases bef_total (hne y (by simp)) with e | e
        · exact e
        · exact absurd e hb
      · exact h1 q hq
theorem Rising.drop {es : Files} (h : Rising es) (n : Name) : Rising (drop es n) := List.Pairwise.filter _ h
theorem Rising.put {es : Files} (h : Rising es) (n : Name) (bs : List UInt8) : Rising (put es n bs) := rising_ins (h.drop n) fun p hp => (mem_drop.1 hp).2

theorem get_some {es : Files} (h : Rising es) {n : Name} {bs : List UInt8} : get es n = some bs ↔ (n, bs) ∈ es := by
  induction es with
  | nil => simp [get]
  | cons y r ih =>
    obtain ⟨h1, h2⟩ := List.pairwise_cons.1 h
    obtain ⟨a, b⟩ := y
    unfold get
    by_cases e : a = n
    · subst e
      simp only [List.find?_cons, beq_self_eq_true, Option.map_some, Option.some.injEq, List.mem_cons, Prod.mk.injEq, true_and]
      constructor
      · rintro rfl; exact .inl rfl
      · rintro (e | hm)
        · exact e.symm
        · exact absurd rfl (bef_ne (h1 (a, bs) hm))
    · have e' : (a == n) = false := by simpa using e
      simp only [List.find?_cons, e']
      have := ih h2
      unfold get at this
      rw [this]
      simp [Ne.symm e]
theorem get_none {es : Files} {n : Name} : get es n = none ↔ ∀ p ∈ es, p.1 ≠ n := by
  simp [get, List.find?_eq_none]

theorem get_put_same {es : Files} (h : Rising es) (n : Name) (bs : List UInt8) : get (put es n bs) n = some bs := (get_some (h.put n bs)).2 (mem_put.2 (.inl rfl))
theorem opt_ext {α : Type} {a b : Option α} (h : ∀ x, a = some x ↔ b = some x) : a = b := by
  cases a with
  | none => cases b with
    | none => rfl
    | some y => exact (h y).2 rfl
  | some y => exact ((h y).1 rfl).symm
theorem get_put_other {es : Files} (h : Rising es) {n m : Name} (hne : m ≠ n) (bs : List UInt8) : get (put es n bs) m = get es m := by
  refine opt_ext fun x => ?_
  rw [get_some (h.put n bs), get_some h, mem_put]
  simp [hne]
theorem get_drop_same {es : Files} (n : Name) : get (drop es n) n = none := get_none.2 fun p hp => (mem_drop.1 hp).2
theorem get_drop_other {es : Files} (h : Rising es) {n m : Name} (hne : m ≠ n) : get (drop es n) m = get es m := by
  refine opt_ext fun x => ?_
  rw [get_some (h.drop n), get_some h, mem_drop]
  simp [hne]
theorem drop_none {es : Files} {n : Name} (h : get es n = none) : drop es n = es := by
  unfold drop
  rw [List.filter_eq_self]
  intro p hp
  simpa using get_none.1 h p hp

theorem used_ins (x : Name × List UInt8) : ∀ es : Files, used (ins x es) = x.2.length + used es
  | [] => by simp [ins, used]
  | y :: r => by
    unfold ins
    split
    · simp [used]
    · have := used_ins x r
      simp only [used, List.map_cons, List.sum_cons] at this ⊢
      omega
theorem used_drop {es : Files} (h : Rising es) (n : Name) : used (drop es n) + ((get es n).getD []).length = used es := by
  induction es with
  | nil => simp [used, drop, get]
  | cons y r ih =>
    obtain ⟨h1, h2⟩ := List.pairwise_cons.1 h
    by_cases e : y.1 = n
    · have hn : get r n = none := get_none.2 fun p hp => by rw [← e]; exact (bef_ne (h1 p hp)).symm
      have hd : drop (y :: r) n = r := by
        have := drop_none hn
        unfold drop at this ⊢
        rw [List.filter_cons, this]
        simp [e]
      have hg : get (y :: r) n = some y.2 := by simp [get, e]
      rw [hd, hg]
      simp [used]
      omega
    · have hd : drop (y :: r) n = y :: drop r n := by simp [drop, e]
      have hg : get (y :: r) n = get r n := by simp [get, e]
      have := ih h2
      rw [hd, hg]
      simp only [used, List.map_cons, List.sum_cons] at this ⊢
      omega
theorem used_put {es : Files} (h : Rising es) (n : Name) (bs : List UInt8) : used (put es n bs) + ((get es n).getD []).length = used es + bs.length := by
  have := used_drop h n
  rw [put, used_ins]
  simp only
  omega

theorem len_ins (x : Name × List UInt8) : ∀ es : Files, (ins x es).length = es.length + 1
  | [] => rfl
  | y :: r => by
    unfold ins
    split
    · rfl
    · simp [len_ins x r]
theorem len_drop {es : Files} (h : Rising es) (n : Name) : (drop es n).length + (if (get es n).isSome then 1 else 0) = es.length := by
  induction es with
  | nil => simp [drop, get]
  | cons y r ih =>
    obtain ⟨h1, h2⟩ := List.pairwise_cons.1 h
    by_cases e : y.1 = n
    · have hn : get r n = none := get_none.2 fun p hp => by rw [← e]; exact (bef_ne (h1 p hp)).symm
      have hd : drop (y :: r) n = r := by
        have := drop_none hn
        unfold drop at this ⊢
        rw [List.filter_cons, this]
        simp [e]
      have hg : get (y :: r) n = some y.2 := by simp [get, e]
      rw [hd, hg]
      simp
    · have hd : drop (y :: r) n = y :: drop r n := by simp [drop, e]
      have hg : get (y :: r) n = get r n := by simp [get, e]
      have := ih h2
      rw [hd, hg]
      simp only [List.length_cons] at this ⊢
      omega
theorem len_put {es : Files} (h : Rising es) (n : Name) (bs : List UInt8) : (put es n bs).length = es.length + (if (get es n).isSome then 0 else 1) := by
  have := len_drop h n
  rw [put, len_ins]
  split at this <;> rename_i hh <;> simp [hh] <;> omega

theorem get_len {es : Files} (h : Rising es) (n : Name) : ((get es n).getD []).length ≤ used es := by have := used_drop h n; omega

/-- One thing that is done: 0 an append, 1 a truncation, 2 a renaming, 3 a removal. -/
structure Change where
  kind : Nat
  name : ByteArray
  to : ByteArray
  bytes : List UInt8
  size : Nat

def nm (s : ByteArray) : Name := s.data.toList
theorem nm_inj {s t : ByteArray} (h : nm s = nm t) : s = t := by
  obtain ⟨⟨a⟩⟩ := s
  obtain ⟨⟨b⟩⟩ := t
  simp only [nm] at h
  rw [h]

def old (es : Files) (n : Name) : List UInt8 := (get es n).getD []
def doit (es : Files) (c : Change) : Files :=
  match c.kind with
  | 0 => put es (nm c.name) (old es (nm c.name) ++ c.bytes)
  | 1 => put es (nm c.name) ((old es (nm c.name)).take c.size)
  | 2 => put (drop es (nm c.name)) (nm c.to) (old es (nm c.name))
  | _ => drop es (nm c.name)

/-- may it be done to these? -/
def Change.fits (c : Change) (es : Files) : Prop := c.kind < 4 ∧ (c.kind = 1 → c.size ≤ (old es (nm c.name)).length)

theorem rising_doit {es : Files} (h : Rising es) (c : Change) : Rising (doit es c) := by
  unfold doit
  split
  · exact h.put _ _
  · exact h.put _ _
  · exact (h.drop _).put _ _
  · exact h.drop _

/-- only an append makes more bytes -/
theorem used_doit {es : Files} (h : Rising es) (c : Change) : used (doit es c) ≤ used es + (if c.kind = 0 then c.bytes.length else 0) := by
  have h0 := used_drop h (nm c.name)
  unfold doit
  split
  · rename_i e
    have := used_put h (nm c.name) (old es (nm c.name) ++ c.bytes)
    rw [List.length_append] at this
    unfold old at this
    rw [if_pos e]
    unfold old
    omega
  · have := used_put h (nm c.name) ((old es (nm c.name)).take c.size)
    rw [List.length_take] at this
    unfold old at this ⊢
    omega
  · have := used_put (h.drop (nm c.name)) (nm c.to) (old es (nm c.name))
    unfold old at this ⊢
    omega
  · omega

theorem used_append {es : Files} (h : Rising es) (c : Change) (e : c.kind = 0) : used (doit es c) = used es + c.bytes.length := by
  unfold doit
  rw [e]
  have := used_put h (nm c.name) (old es (nm c.name) ++ c.bytes)
  rw [List.length_append] at this
  unfold old at this ⊢
  simp only
  omega

def all (es : Files) (cs : List Change) : Files := cs.foldl doit es
theorem all_nil (es : Files) : all es [] = es := rfl
theorem all_cons (es : Files) (c : Change) (cs : List Change) : all es (c :: cs) = all (doit es c) cs := rfl
theorem all_snoc (es : Files) (cs : List Change) (c : Change) : all es (cs ++ [c]) = doit (all es cs) c := by simp [all, List.foldl_append]
theorem all_append (es : Files) (cs ds : List Change) : all es (cs ++ ds) = all (all es cs) ds := by simp [all, List.foldl_append]
theorem rising_all {es : Files} (h : Rising es) (cs : List Change) : Rising (all es cs) := by
  induction cs generalizing es with
  | nil => exact h
  | cons c cs ih => exact ih (rising_doit h c)

end Go.Proofs.YtmehneicdklfeaaGreat.fs

namespace Go.Proofs.YtmehneicdklfeaaGreat.r2
open Go.RowKit Go.Maps Go.Proofs.YtmehneicdklfeaaGreat.sum Go.Proofs.YtmehneicdklfeaaGreat.kept Go.Proofs.YtmehneicdklfeaaGreat.app Go.Proofs.YtmehneicdklfeaaGreat.writer Go.Proofs.YtmehneicdklfeaaGreat.clone Go.Proofs.YtmehneicdklfeaaGreat.fs
set_option linter.unusedVariables false

/-- a file: its name, the slice, the bytes -/
abbrev Fv := ByteArray × Value × List UInt8
def files (l : List Fv) : Files := l.map fun q => (nm q.1, q.2.2)
def cells (l : List Fv) : List Value := l.flatMap fun q => [.string q.1, q.2.1]

theorem cells_append (l m : List Fv) : cells (l ++ m) = cells l ++ cells m := List.flatMap_append
theorem cells_length (l : List Fv) : (cells l).length = l.length * 2 := by
  induction l with
  | nil => rfl
  | cons q l ih =>
    show (Value.string q.1 :: q.2.1 :: cells l).length = _
    simp only [List.length_cons, ih]
    omega
theorem cells_at : ∀ (l : List Fv) (k : Nat) (h : k < l.length), (cells l)[k * 2]? = some (.string l[k].1) ∧ (cells l)[k * 2 + 1]? = some l[k].2.1
  | q :: l, 0, _ => ⟨rfl, rfl⟩
  | q :: l, k + 1, h => by
    have := cells_at l k (by simpa using h)
    refine ⟨?_, ?_⟩
    · show (Value.string q.1 :: q.2.1 :: cells l)[(k + 1) * 2]? = _
      rw [show (k + 1) * 2 = k * 2 + 1 + 1 by omega, List.getElem?_cons_succ, List.getElem?_cons_succ, this.1]
      rfl
    · show (Value.string q.1 :: q.2.1 :: cells l)[(k + 1) * 2 + 1]? = _
      rw [show (k + 1) * 2 + 1 = (k * 2 + 1) + 1 + 1 by omega, List.getElem?_cons_succ, List.getElem?_cons_succ, this.2]
      rfl

/-- a row of files -/
def FRow (w : World) (base : Nat) (v : Value) (l : List Fv) : Prop := w.ownsRow base 45 2 v l.length (cells l)
/-- read: a slice of these, each of these bytes -/
def Fl (w : World) (v : Value) (l : List Fv) : Prop := FRow w 0 v l ∧ ∀ q ∈ l, Bs w q.2.1 q.2.2

theorem FRow.low {w : World} {base base' : Nat} {v : Value} {l : List Fv} (h : FRow w base v l) (hb : base' ≤ base) : FRow w base' v l := owns_base h hb
theorem FRow.no {w w' : World} {base : Nat} {v : Value} {l : List Fv} (h : FRow w base v l) (hk : Kp No w w') : FRow w' base v l := owns_kept h hk fun _ _ => id
theorem Fl.no {w w' : World} {v : Value} {l : List Fv} (h : Fl w v l) (hk : Kp No w w') : Fl w' v l := ⟨h.1.no hk, fun q hq => bs_no (h.2 q hq) hk⟩
theorem Fl.nil (w : World) : Fl w (.slice none 0 0) [] := ⟨World.ownsRow_nil _ _ _ _, fun q hq => by cases hq⟩

theorem FRow.opened {w : World} {base : Nat} {v : Value} {l : List Fv} (h : FRow w base v l) : ∃ a cap, v = .slice a l.length cap ∧ l.length ≤ cap ∧ cap ≤ 9223372036854775807 ∧
    (l ≠ [] → ∃ b, a = some ⟨b, 0, none⟩ ∧ ∀ k (h : k < l.length), w.cell? ⟨b, k * 2, none⟩ = some (.string l[k].1) ∧ w.cell? ⟨b, k * 2 + 1, none⟩ = some l[k].2.1) := by
  have h' : w.ownsRow base 45 2 v l.length (cells l) := h
  rcases h'.2 with ⟨rfl, h0⟩ | ⟨g, cap, cur, rfl, hb, hg, r1, r2, r3, r4⟩
  · exact ⟨none, 0, by rw [h0], by omega, by omega, fun hne => absurd (List.eq_nil_of_length_eq_zero h0) hne⟩
  · refine ⟨_, cap, rfl, r1, by unfold maxLen at r2; omega, fun _ => ⟨g, rfl, fun k hk => ?_⟩⟩
    have c1 := h'.cells (g := g) rfl _ _ (cells_at l k hk).1
    have c2 := h'.cells (g := g) rfl _ _ (cells_at l k hk).2
    rw [addr_add, Nat.zero_add] at c1 c2
    exact ⟨c1, c2⟩

/-- where a name stands -/
def at? (l : List Fv) (n : ByteArray) : Option Nat := l.findIdx? fun q => decide (q.1 = n)
def place (l : List Fv) (n : ByteArray) : Int := match at? l n with | some k => (k : Int) | none => -1

theorem txt_ne {a b : ByteArray} (h : a ≠ b) : (a.toList == b.toList) = false := by
  rw [ByteArray.toList_eq, ByteArray.toList_eq]
  simp only [beq_eq_false_iff_ne, ne_eq]
  exact fun e => h (nm_inj e)

def FindRel (l : List Fv) (n : ByteArray) (w : World) (i : Value) (wr : World) : Prop := ∃ k : Nat, i = .int .i64 (k : Int) ∧ k ≤ l.length ∧ (∀ j (h : j < l.length), j < k → l[j].1 ≠ n) ∧ w = wr

theorem place_at {l : List Fv} {n : ByteArray} {k : Nat} (hk : k < l.length) (h : l[k].1 = n) (hb : ∀ j (h : j < l.length), j < k → l[j].1 ≠ n) : place l n = (k : Int) := by
  have : at? l n = some k := by
    unfold at?
    rw [List.findIdx?_eq_some_iff_getElem]
    exact ⟨hk, by simpa using h, fun j hj => by simpa using hb j (by omega) hj⟩
  unfold place
  rw [this]
theorem place_none {l : List Fv} {n : ByteArray} (hb : ∀ j (h : j < l.length), l[j].1 ≠ n) : place l n = -1 := by
  have : at? l n = none := by
    unfold at?
    rw [List.findIdx?_eq_none_iff]
    intro q hq
    obtain ⟨j, hj, rfl⟩ := List.getElem_of_mem hq
    simpa using hb j hj
  unfold place
  rw [this]

set_option maxRecDepth 100000 in
set_option maxHeartbeats 2000000 in
theorem find_any (w : World) (v : Value) (l : List Fv) (n : ByteArray) (h : Fl w v l) (hl : l.length ≤ 1000000000000) (hn : n.size ≤ maxLen) : Calls Tryz.prog 52 #[v, .string n] w fun e w' => e = .returned (.int .i64 (place l n)) ∧ w = w' := by
  obtain ⟨a, cap, rfl, h1, h2, h3⟩ := h.1.opened
  have HC := Hid_mk h3
  clear h3 h
  go_enter Tryz.func52, Tryz.ntmps52
  go_wp2
  go_loopw [5] (fun i wr => FindRel l n w i wr) (fun i _ => l.length - (intOf i).toNat)
  case atStart => exact ⟨0, rfl, Nat.zero_le _, fun _ _ h => absurd h (Nat.not_lt_zero _), rfl⟩
  case round =>
    obtain ⟨k, rfl, hk, hb, rfl⟩ := hrel
    have HB := Hid_mk hb
    clear hb
    by_cases hlt : k < l.length
    · have hki : (k : Int) < (l.length : Int) := by omega
      have hk0 : (0 : Int) ≤ (k : Int) := Int.natCast_nonneg _
      obtain ⟨b, rfl, hc⟩ := HC.out (by intro e; rw [e] at hlt; simp at hlt)
      obtain ⟨x, hx⟩ : ∃ x, x = l[k].1 := ⟨_, rfl⟩
      have c0 : w.cell? ⟨b, k * 2, none⟩ = some (.string x) := (hc k hlt).1.trans (congrArg (fun y => some (Value.string y)) hx.symm)
      have HLt := Hid_mk hlt
      by_cases he : x = n
      · have HP := Hid_mk (place_at hlt (hx.symm.trans he) HB.out)
        subst he
        clear hc hx hlt
        go_wp2
        go_ret
        rw [HP.out]
        exact ⟨rfl, rfl⟩
      · have HN := Hid_mk (show FindRel l n w (.int .i64 ((k : Int) + 1)) w from ⟨k + 1, by push_cast; rfl, hlt, fun j hj hjk => by
          by_cases e : j = k
          · subst e; exact fun e2 => he (hx.trans e2)
          · exact HB.out j hj (by omega), rfl⟩)
        have hxn := txt_ne he
        clear hc hx hlt he
        go_wp2
        go_roundw
        case rel => exact HN.out
        case measure => have := HLt.out; simp only [intOf]; omega
    · have hki : ¬ (k : Int) < (l.length : Int) := by omega
      have HP := Hid_mk (place_none (l := l) (n := n) fun j hj => HB.out j hj (by omega))
      clear hlt
      go_wp2
      go_ret
      rw [HP.out]
      exact ⟨rfl, rfl⟩

end Go.Proofs.YtmehneicdklfeaaGreat.r2

namespace Go.Proofs.YtmehneicdklfeaaGreat.r2
open Go.RowKit Go.Maps Go.Proofs.YtmehneicdklfeaaGreat.sum Go.Proofs.YtmehneicdklfeaaGreat.kept Go.Proofs.YtmehneicdklfeaaGreat.app Go.Proofs.YtmehneicdklfeaaGreat.writer Go.Proofs.YtmehneicdklfeaaGreat.clone Go.Proofs.YtmehneicdklfeaaGreat.fs
set_option linter.unusedVariables false

theorem infoF : (Tryz.prog.info? 45).map (fun i => (i.zero, i.size, i.bytes)) = some (some (.agg #[.string ByteArray.empty, .slice none 0 0]), 2, 40) := by kernel_rfl

/-- what an append of files leaves -/
def Cat (base : Nat) (w : World) (v : Value) (l m : List Fv) (v' : Value) (w' : World) : Prop :=
  FRow w' base v' (l ++ m) ∧ Kp (fun k => some k = v.ownBlock) w w' ∧ (v'.ownBlock = v.ownBlock ∨ v'.ownBlock = some w.heap.size)

theorem run_cat (w : World) (ty : TypeId) (base : Nat) (v : Value) (l m : List Fv) (h : FRow w base v l) (hbase : base ≤ w.heap.size) (hone : ∀ q ∈ m, q.2.1.oneCell' = true) (b o c : Nat) (hc : ∀ j u, (cells m)[j]? = some u → w.cell? ⟨b, o + j, none⟩ = some u) (hn : l.length + m.length ≤ 1000000000000) :
    ∃ v' w', (Builtin.append_ #[46, 46] ty #[v, .slice (some ⟨b, o, none⟩) m.length c]).run Tryz.prog w = .ok v' w' ∧ Cat base w v l m v' w' := by
  obtain ⟨i0, hi, hz0, hz1, hz2⟩ := info_parts infoF
  have hcell : ∀ u ∈ cells m, u.oneCell' = true := fun u hu => by
    obtain ⟨q, hq, hu⟩ := List.mem_flatMap.1 hu
    simp only [List.mem_cons, List.not_mem_nil, or_false] at hu
    rcases hu with rfl | rfl
    · rfl
    · exact hone q hq
  obtain ⟨v', w', hr, k1, k2, k3, k4⟩ := run_append_own_at (P := Tryz.prog) w base 46 ty 45 i0 (.agg #[.string ByteArray.empty, .slice none 0 0]) 2 40 Tryz.underlying46 hi hz0 hz1 hz2 rfl (by decide) v l.length _ h ⟨b, o, none⟩ m.length c (cells m)
    (cells_length m) (fun j u hj => by rw [addr_add]; exact hc j u hj) hcell (by unfold maxLen; omega) (by omega) hbase
  refine ⟨v', w', hr, ?_, (Kp.refl _ _).grown k2 fun k _ e => e.symm, k4⟩
  unfold FRow
  rw [List.length_append, cells_append]
  exact k1

theorem wpList_cat (w : World) {ops : Array Oper} {rest : List Oper} {o : Oper} {a : Act} {Q : Exit → Act → World → Prop} (hgd : o.guard = none) (s e : Operand)
    (ho : o.op = .call { callee := .builtin .append, args := #[s, e], argTypes := #[46, 46] })
    (base : Nat) (v : Value) (l m : List Fv) (hs : a.eval s = v) (h : FRow w base v l) (hbase : base ≤ w.heap.size) (hone : ∀ q ∈ m, q.2.1.oneCell' = true) (b f c : Nat) (he : a.eval e = .slice (some ⟨b, f, none⟩) m.length c) (hc : ∀ j u, (cells m)[j]? = some u → w.cell? ⟨b, f + j, none⟩ = some u) (hn : l.length + m.length ≤ 1000000000000)
    (hK : ∀ v' w', Cat base w v l m v' w' → wpList Tryz.prog ops Q rest (a.put o.dst v') w') : wpList Tryz.prog ops Q (o :: rest) a w := by
  obtain ⟨v', w', hr, h2⟩ := run_cat w o.type base v l m h hbase hone b f c hc hn
  refine wpList_plain hgd fun K hK2 => ?_
  unfold Oper.wp execOp
  simp only [ho, resolve, invoke, builtin, Sem.run_bind, Sem.run_pure, Result.andThen_ok, List.map_toArray, List.map_cons, List.map_nil, hs, he, hr]
  exact hK2 _ _ (hK v' w' h2)

def but (n : ByteArray) (l : List Fv) : List Fv := l.filter fun q => !decide (q.1 = n)
theorem but_le (n : ByteArray) (l : List Fv) : (but n l).length ≤ l.length := List.length_filter_le _ _
theorem but_snoc (n : ByteArray) (l : List Fv) (k : Nat) (h : k < l.length) : but n (l.take (k + 1)) = but n (l.take k) ++ (if l[k].1 = n then [] else [l[k]]) := by
  rw [List.take_succ_eq_append_getElem h]
  unfold but
  rw [List.filter_append]
  congr 1
  by_cases e : l[k].1 = n
  · simp [e]
  · simp [e]
theorem files_but (n : ByteArray) (l : List Fv) : files (but n l) = drop (files l) (nm n) := by
  unfold files but drop
  rw [List.filter_map]
  congr 1
  refine List.filter_congr fun q _ => ?_
  simp only [Function.comp_apply]
  congr 1
  by_cases e : q.1 = n
  · simp [e]
  · have : nm q.1 ≠ nm n := fun h => e (nm_inj h)
    simp [e, this]

def WoRel (w : World) (l : List Fv) (n : ByteArray) (out i : Value) (wr : World) : Prop := ∃ k : Nat, i = .int .i64 (k : Int) ∧ k ≤ l.length ∧ FRow wr w.heap.size out (but n (l.take k)) ∧ Kp No w wr
/-- what a call leaves that makes files -/
def NewFl (w : World) (l : List Fv) (e : Ending) (w' : World) : Prop := ∃ v', e = .returned v' ∧ FRow w' w.heap.size v' l ∧ Kp No w w'

set_option maxRecDepth 100000 in
set_option maxHeartbeats 4000000 in
theorem without_any (w : World) (v : Value) (l : List Fv) (n : ByteArray) (h : Fl w v l) (hl : l.length ≤ 1000000000) (hn : n.size ≤ maxLen) : Calls Tryz.prog 69 #[v, .string n] w (NewFl w (but n l)) := by
  obtain ⟨a, cap, rfl, h1, h2, h3⟩ := h.1.opened
  have HC := Hid_mk h3
  have HB := Hid_mk h.2
  clear h3 h
  go_enter Tryz.func69, Tryz.ntmps69
  go_wp2
  go_loopw [5, 6] (fun out i wr => WoRel w l n out i wr) (fun _ i _ => l.length - (intOf i).toNat)
  case atStart => exact ⟨0, rfl, Nat.zero_le _, World.ownsRow_nil _ _ _ _, Kp.refl _ _⟩
  case round =>
    obtain ⟨k, rfl, hk, hrow, hkp⟩ := hrel
    have HR := Hid_mk hrow
    have HK := Hid_mk hkp
    have hsz := hkp.size
    clear hrow hkp
    by_cases hlt : k < l.length
    · have hki : (k : Int) < (l.length : Int) := by omega
      have hk0 : (0 : Int) ≤ (k : Int) := Int.natCast_nonneg _
      obtain ⟨b, rfl, hc⟩ := HC.out (by intro e; rw [e] at hlt; simp at hlt)
      obtain ⟨q, hq⟩ : ∃ q, q = l[k] := ⟨_, rfl⟩
      have hqm : q ∈ l := hq ▸ List.getElem_mem hlt
      have hb := HB.out q hqm
      obtain ⟨x, y, bs⟩ := q
      have c0 : wr.cell? ⟨b, k * 2, none⟩ = some (.string x) := HK.out.cell' ((hc k hlt).1.trans (congrArg (fun y : Fv => some (Value.string y.1)) hq.symm)) id
      have c1 : wr.cell? ⟨b, k * 2 + 1, none⟩ = some y := HK.out.cell' ((hc k hlt).2.trans (congrArg (fun y : Fv => some y.2.1) hq.symm)) id
      obtain ⟨ay, cy, hy, -⟩ := hb
      simp only at hy
      have HLt := Hid_mk hlt
      have hsn := but_snoc n l k hlt
      rw [← hq] at hsn
      by_cases he : x = n
      · subst he
        rw [if_pos rfl, List.append_nil] at hsn
        have HN := Hid_mk (show WoRel w l x u5 (.int .i64 ((k : Int) + 1)) wr from ⟨k + 1, by push_cast; rfl, hlt, hsn ▸ HR.out, HK.out⟩)
        clear hc hq hlt hqm hsn
        go_wp2
        go_roundw
        case rel => exact HN.out
        case measure => have := HLt.out; simp only [intOf]; omega
      · rw [if_neg he] at hsn
        have HS := Hid_mk hsn
        have hbl := but_le n (l.take k)
        rw [List.length_take] at hbl
        have hxn := txt_ne he
        obtain ⟨au, cu, hu⟩ : ∃ a c, u5 = .slice a (but n (l.take k)).length c := by
          obtain ⟨a, c, e, -⟩ := FRow.opened HR.out
          exact ⟨a, c, e⟩
        subst hy hu
        clear hc hq hlt hqm hsn he
        go_wp2_with (at_builtin; (refine wpList_cat _ rfl _ _ rfl w.heap.size _ (but n (l.take k)) [(x, .slice ay bs.length cy, bs)] rfl (FRow.no HR.out ((Kp.refl No wr).alloc _)) ?b1 (fun q hq => by simp only [List.mem_singleton] at hq; subst hq; rfl) wr.heap.size 0 1 rfl ?b3 ?b2 ?_))
        case b1 => simp; omega
        case b2 => simp; omega
        case b3 =>
          intro j u hj
          have := World.news_of_block (heap_alloc_new wr (.cells #[.string x, .slice ay bs.length cy] 45)) j u hj
          rw [addr_add] at this
          exact this
        rintro v2 w6 ⟨hp1, hp2, hp3⟩
        have HN := Hid_mk (show WoRel w l n v2 (.int .i64 ((k : Int) + 1)) w6 from ⟨k + 1, by push_cast; rfl, HLt.out, HS.out ▸ hp1, (HK.out.alloc _).trans hp2 fun i hi e => by have := (HR.out.lt i e.symm).1; omega⟩)
        clear hp1 hp2 hp3
        go_wp2
        go_roundw
        case rel => exact HN.out
        case measure => have := HLt.out; simp only [intOf]; omega
    · have hki : ¬ (k : Int) < (l.length : Int) := by omega
      obtain rfl : k = l.length := by omega
      have HR2 := HR.out
      rw [List.take_length] at HR2
      obtain ⟨au, cu, hu⟩ : ∃ a c, u5 = .slice a (but n l).length c := by
        obtain ⟨a, c, e, -⟩ := FRow.opened HR2
        exact ⟨a, c, e⟩
      subst hu
      have HF := Hid_mk (show NewFl w (but n l) (.returned (.slice au (but n l).length cu)) wr from ⟨_, rfl, HR2, HK.out⟩)
      clear hlt HR2 HR
      go_wp2
      go_ret
      exact HF.out

end Go.Proofs.YtmehneicdklfeaaGreat.r2
