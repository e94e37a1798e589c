/- The reference's files, as they are read, and find. -/
import Derived.Test.YtomckoeobkfklaaDoorClone
import Derived.Test.YtomckoeobkfklaaDoorFsPlain
import Derived.Maps.AppendAt
import Derived.Deep.AppendLies
import Derived.Deep.RegionHeld3
namespace Go.Proofs.YtomckoeobkfklaaDoor.r2
open Go.RowKit Go.Maps Go.Proofs.YtomckoeobkfklaaDoor.sum Go.Proofs.YtomckoeobkfklaaDoor.kept Go.Proofs.YtomckoeobkfklaaDoor.app Go.Proofs.YtomckoeobkfklaaDoor.writer Go.Proofs.YtomckoeobkfklaaDoor.clone Go.Proofs.YtomckoeobkfklaaDoor.fs
set_option linter.unusedVariables false

/-- a file: its name, the slice, the bytes -/
abbrev Fv := ByteArray × Value × List UInt8
def files (l : List Fv) : Files := l.map fun q => (nm q.1, q.2.2)
def cells (l : List Fv) : List Value := l.flatMap fun q => [.string q.1, q.2.1]

theorem cells_append (l m : List Fv) : cells (l ++ m) = cells l ++ cells m := List.flatMap_append
theorem cells_length (l : List Fv) : (cells l).length = l.length * 2 := by
  induction l with
  | nil => rfl
  | cons q l ih =>
    show (Value.string q.1 :: q.2.1 :: cells l).length = _
    simp only [List.length_cons, ih]
    omega
theorem cells_at : ∀ (l : List Fv) (k : Nat) (h : k < l.length), (cells l)[k * 2]? = some (.string l[k].1) ∧ (cells l)[k * 2 + 1]? = some l[k].2.1
  | q :: l, 0, _ => ⟨rfl, rfl⟩
  | q :: l, k + 1, h => by
    have := cells_at l k (by simpa using h)
    refine ⟨?_, ?_⟩
    · show (Value.string q.1 :: q.2.1 :: cells l)[(k + 1) * 2]? = _
      rw [show (k + 1) * 2 = k * 2 + 1 + 1 by omega, List.getElem?_cons_succ, List.getElem?_cons_succ, this.1]
      rfl
    · show (Value.string q.1 :: q.2.1 :: cells l)[(k + 1) * 2 + 1]? = _
      rw [show (k + 1) * 2 + 1 = (k * 2 + 1) + 1 + 1 by omega, List.getElem?_cons_succ, List.getElem?_cons_succ, this.2]
      rfl

/-- a row of files -/
def FRow (w : World) (base : Nat) (v : Value) (l : List Fv) : Prop := w.ownsRow base 68 2 v l.length (cells l)
/-- read: a slice of these, each of these bytes -/
def Fl (w : World) (v : Value) (l : List Fv) : Prop := FRow w 0 v l ∧ ∀ q ∈ l, Bs w q.2.1 q.2.2

theorem FRow.low {w : World} {base base' : Nat} {v : Value} {l : List Fv} (h : FRow w base v l) (hb : base' ≤ base) : FRow w base' v l := owns_base h hb
theorem FRow.no {w w' : World} {base : Nat} {v : Value} {l : List Fv} (h : FRow w base v l) (hk : Kp No w w') : FRow w' base v l := owns_kept h hk fun _ _ => id
theorem Fl.no {w w' : World} {v : Value} {l : List Fv} (h : Fl w v l) (hk : Kp No w w') : Fl w' v l := ⟨h.1.no hk, fun q hq => bs_no (h.2 q hq) hk⟩
theorem Fl.nil (w : World) : Fl w (.slice none 0 0) [] := ⟨World.ownsRow_nil _ _ _ _, fun q hq => by cases hq⟩

theorem FRow.opened {w : World} {base : Nat} {v : Value} {l : List Fv} (h : FRow w base v l) : ∃ a cap, v = .slice a l.length cap ∧ l.length ≤ cap ∧ cap ≤ 9223372036854775807 ∧
    (l ≠ [] → ∃ b, a = some ⟨b, 0, none⟩ ∧ ∀ k (h : k < l.length), w.cell? ⟨b, k * 2, none⟩ = some (.string l[k].1) ∧ w.cell? ⟨b, k * 2 + 1, none⟩ = some l[k].2.1) := by
  have h' : w.ownsRow base 68 2 v l.length (cells l) := h
  rcases h'.2 with ⟨rfl, h0⟩ | ⟨g, cap, cur, rfl, hb, hg, r1, r2, r3, r4⟩
  · exact ⟨none, 0, by rw [h0], by omega, by omega, fun hne => absurd (List.eq_nil_of_length_eq_zero h0) hne⟩
  · refine ⟨_, cap, rfl, r1, by unfold maxLen at r2; omega, fun _ => ⟨g, rfl, fun k hk => ?_⟩⟩
    have c1 := h'.cells (g := g) rfl _ _ (cells_at l k hk).1
    have c2 := h'.cells (g := g) rfl _ _ (cells_at l k hk).2
    rw [addr_add, Nat.zero_add] at c1 c2
    exact ⟨c1, c2⟩

/-- where a name stands -/
def at? (l : List Fv) (n : ByteArray) : Option Nat := l.findIdx? fun q => decide (q.1 = n)
def place (l : List Fv) (n : ByteArray) : Int := match at? l n with | some k => (k : Int) | none => -1

theorem txt_ne {a b : ByteArray} (h : a ≠ b) : (a.toList == b.toList) = false := by
  rw [ByteArray.toList_eq, ByteArray.toList_eq]
  simp only [beq_eq_false_iff_ne, ne_eq]
  exact fun e => h (nm_inj e)

def FindRel (l : List Fv) (n : ByteArray) (w : World) (i : Value) (wr : World) : Prop := ∃ k : Nat, i = .int .i64 (k : Int) ∧ k ≤ l.length ∧ (∀ j (h : j < l.length), j < k → l[j].1 ≠ n) ∧ w = wr

theorem place_at {l : List Fv} {n : ByteArray} {k : Nat} (hk : k < l.length) (h : l[k].1 = n) (hb : ∀ j (h : j < l.length), j < k → l[j].1 ≠ n) : place l n = (k : Int) := by
  have : at? l n = some k := by
    unfold at?
    rw [List.findIdx?_eq_some_iff_getElem]
    exact ⟨hk, by simpa using h, fun j hj => by simpa using hb j (by omega) hj⟩
  unfold place
  rw [this]
theorem place_none {l : List Fv} {n : ByteArray} (hb : ∀ j (h : j < l.length), l[j].1 ≠ n) : place l n = -1 := by
  have : at? l n = none := by
    unfold at?
    rw [List.findIdx?_eq_none_iff]
    intro q hq
    obtain ⟨j, hj, rfl⟩ := List.getElem_of_mem hq
    simpa using hb j hj
  unfold place
  rw [this]

set_option maxRecDepth 100000 in
set_option maxHeartbeats 2000000 in
theorem find_any (w : World) (v : Value) (l : List Fv) (n : ByteArray) (h : Fl w v l) (hl : l.length ≤ 1000000000000) (hn : n.size ≤ maxLen) : Calls Tryd.prog 42 #[v, .string n] w fun e w' => e = .returned (.int .i64 (place l n)) ∧ w = w' := by
  obtain ⟨a, cap, rfl, h1, h2, h3⟩ := h.1.opened
  have HC := Hid_mk h3
  clear h3 h
  go_enter Tryd.func42, Tryd.ntmps42
  go_wp2
  go_loopw [5] (fun i wr => FindRel l n w i wr) (fun i _ => l.length - (intOf i).toNat)
  case atStart => exact ⟨0, rfl, Nat.zero_le _, fun _ _ h => absurd h (Nat.not_lt_zero _), rfl⟩
  case round =>
    obtain ⟨k, rfl, hk, hb, rfl⟩ := hrel
    have HB := Hid_mk hb
    clear hb
    by_cases hlt : k < l.length
    · have hki : (k : Int) < (l.length : Int) := by omega
      have hk0 : (0 : Int) ≤ (k : Int) := Int.natCast_nonneg _
      obtain ⟨b, rfl, hc⟩ := HC.out (by intro e; rw [e] at hlt; simp at hlt)
      obtain ⟨x, hx⟩ : ∃ x, x = l[k].1 := ⟨_, rfl⟩
      have c0 : w.cell? ⟨b, k * 2, none⟩ = some (.string x) := (hc k hlt).1.trans (congrArg (fun y => some (Value.string y)) hx.symm)
      have HLt := Hid_mk hlt
      by_cases he : x = n
      · have HP := Hid_mk (place_at hlt (hx.symm.trans he) HB.out)
        subst he
        clear hc hx hlt
        go_wp2
        go_ret
        rw [HP.out]
        exact ⟨rfl, rfl⟩
      · have HN := Hid_mk (show FindRel l n w (.int .i64 ((k : Int) + 1)) w from ⟨k + 1, by push_cast; rfl, hlt, fun j hj hjk => by
          by_cases e : j = k
          · subst e; exact fun e2 => he (hx.trans e2)
          · exact HB.out j hj (by omega), rfl⟩)
        have hxn := txt_ne he
        clear hc hx hlt he
        go_wp2
        go_roundw
        case rel => exact HN.out
        case measure => have := HLt.out; simp only [intOf]; omega
    · have hki : ¬ (k : Int) < (l.length : Int) := by omega
      have HP := Hid_mk (place_none (l := l) (n := n) fun j hj => HB.out j hj (by omega))
      clear hlt
      go_wp2
      go_ret
      rw [HP.out]
      exact ⟨rfl, rfl⟩

end Go.Proofs.YtomckoeobkfklaaDoor.r2
