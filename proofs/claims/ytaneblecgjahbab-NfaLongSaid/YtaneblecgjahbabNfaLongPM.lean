/- Package nfa, plainly: four texts that take ages where one backs up, and what they match. append onto a row of bytes of the call's own: of bytes that are read in whatever slice, of a string; where the row lies behind it. What package pack's Writer and an append of a callee leave: plain facts. bytes.Clone. Bytes as a text. Cuts of a slice of bytes. A remainder; a byte that is turned. tailracehand.Pick; a byte of a slice turned. Two texts, one behind the other. -/
import Derived.Test.YtaneblecgjahbabNfaTrue
import Derived.Test.YtaneblecgjahbabNfaAllM
import Derived.Test.YtaneblecgjahbabEreBrace
import Derived.Test.YtaneblecgjahbabBaseM
import Derived.Maps.AppendAt
import Derived.Lib.AppendStr
import Derived.Deep.AppendSrc
import Derived.Laws.IdiomStrings
import Derived.Laws.BytesArg
import Derived.Laws.Pointers
import Derived.OwnWalk
import Derived.RegionTactic
import Derived.Laws.BitsAllLaws
import Derived.IntWalk
import Derived.Deep.RegionWith
import Derived.StillTailTactics
import Derived.RegionCalls
import Derived.Test.YtaneblecgjahbabNamedM

namespace Go.Proofs.Ytaneblecgjahbab.nfa
open Go.RowKit Go.Proofs.Ytaneblecgjahbab.sum Go.Proofs.Ytaneblecgjahbab.kept Go.Proofs.Ytaneblecgjahbab.pop Go.Proofs.Ytaneblecgjahbab.cls Go.Proofs.Ytaneblecgjahbab.tre Go.Proofs.Ytaneblecgjahbab.ere Go.Proofs.Ytaneblecgjahbab.str
set_option linter.unusedVariables false

/-- how many bytes a match has at least -/
def leastS : Tr → Nat
  | .mk k f [] => if k = 1 then 1 else 0
  | .mk k f [u] => if k = 5 then leastS u else 0
  | .mk k f [x, y] => if k = 2 then leastS x + leastS y else min (leastS x) (leastS y)
  | .mk k f (_ :: _ :: _ :: _) => 0
theorem tg_least {R : Nat → Nat → Prop} {m : Nat} (h : ∀ a e, R a e → a + m ≤ e) {a e : Nat} (g : Tg R a e) : a + m ≤ e := by
  induction g with
  | one g => exact h _ _ g
  | more g _ ih => have := h _ _ g; omega
theorem least_ok (s : Nat → Nat) (n : Nat) : ∀ (t : Tr) (a e : Nat), Mt s n t a e → a + leastS t ≤ e
  | .mk k f [], a, e, h => by
    rw [mt_nil] at h
    rw [leastS]
    by_cases k1 : k = 1
    · rw [if_pos k1] at h ⊢; omega
    · rw [if_neg k1] at h ⊢
      split at h
      · omega
      · split at h <;> omega
  | .mk k f [u], a, e, h => by
    rw [mt_one] at h
    rw [leastS]
    have hu := least_ok s n u
    by_cases k5 : k = 5
    · rw [if_pos k5]
      rcases h with ⟨h, -⟩ | h | ⟨-, h⟩
      · simp [k5] at h
      · exact hu a e h
      · exact tg_least hu h
    · rw [if_neg k5]
      rcases h with ⟨-, rfl⟩ | h | ⟨-, h⟩
      · omega
      · have := hu a e h; omega
      · have := tg_least hu h; omega
  | .mk k f [x, y], a, e, h => by
    rw [mt_two] at h
    rw [leastS]
    by_cases k2 : k = 2
    · rw [if_pos k2] at h ⊢
      obtain ⟨b, h1, h2⟩ := h
      have := least_ok s n x a b h1
      have := least_ok s n y b e h2
      omega
    · rw [if_neg k2] at h ⊢
      rcases h with h | h
      · have := least_ok s n x a e h; omega
      · have := least_ok s n y a e h; omega
  | .mk k f (_ :: _ :: _ :: _), a, e, h => by rw [leastS]; rw [Mt.eq_def] at h; exact h.elim
/-- a match's last byte is this one -/
def lastS (c : Nat) : Tr → Bool
  | .mk k f [] => decide (k = 1) && (List.range 256).all fun b => !f b || decide (b = c)
  | .mk k f [x, y] => decide (k = 2) && lastS c y
  | .mk k f [u] => false
  | .mk k f (_ :: _ :: _ :: _) => false
theorem last_ok (s : Nat → Nat) (n c : Nat) (hs : ∀ a, s a < 256) : ∀ (t : Tr) (a e : Nat), lastS c t = true → Mt s n t a e → 1 ≤ e ∧ e ≤ n ∧ s (e - 1) = c
  | .mk k f [], a, e, hl, h => by
    rw [mt_nil] at h
    rw [lastS] at hl
    simp only [Bool.and_eq_true, decide_eq_true_eq, List.all_eq_true, List.mem_range, Bool.or_eq_true, Bool.not_eq_true'] at hl
    rw [if_pos hl.1] at h
    obtain ⟨h1, h2, rfl⟩ := h
    refine ⟨by omega, by omega, ?_⟩
    rw [Nat.add_sub_cancel]
    rcases hl.2 (s a) (hs a) with h3 | h3
    · rw [h2] at h3; cases h3
    · exact h3
  | .mk k f [u], a, e, hl, h => by rw [lastS] at hl; cases hl
  | .mk k f [x, y], a, e, hl, h => by
    rw [mt_two] at h
    rw [lastS] at hl
    simp only [Bool.and_eq_true, decide_eq_true_eq] at hl
    rw [if_pos hl.1] at h
    obtain ⟨b, -, h2⟩ := h
    exact last_ok s n c hs y b e hl.2 h2
  | .mk k f (_ :: _ :: _ :: _), a, e, hl, h => by rw [lastS] at hl; cases hl
/-- one way through a tree: what may be left out is; how far it goes -/
def runS (g : Nat → Nat) : Tr → Nat → Option Nat
  | .mk k f [], i => if k = 1 then (if f (g i) = true then some (i + 1) else none) else if k = 7 then none else if k = 8 then none else some i
  | .mk k f [u], i => if k = 5 then runS g u i else some i
  | .mk k f [x, y], i => if k = 2 then (match runS g x i with | none => none | some j => runS g y j) else runS g x i
  | .mk k f (_ :: _ :: _ :: _), i => none
theorem run_ok (s : Nat → Nat) (n a : Nat) (g : Nat → Nat) : ∀ (t : Tr) (i j : Nat), runS g t i = some j → (∀ q, q < j → s (a + q) = g q) → a + j ≤ n → i ≤ j ∧ Mt s n t (a + i) (a + j)
  | .mk k f [], i, j, h, hg, hn => by
    rw [runS] at h
    rw [mt_nil]
    by_cases k1 : k = 1
    · rw [if_pos k1] at h ⊢
      split at h
      · rename_i hf
        injection h with h
        subst h
        refine ⟨by omega, by omega, ?_, by omega⟩
        rw [hg i (by omega)]
        exact hf
      · cases h
    · rw [if_neg k1] at h ⊢
      split at h
      · cases h
      · split at h
        · cases h
        · rename_i k7 k8
          injection h with h
          subst h
          rw [if_neg k7, if_neg k8]
          exact ⟨Nat.le_refl _, rfl⟩
  | .mk k f [u], i, j, h, hg, hn => by
    rw [runS] at h
    rw [mt_one]
    by_cases k5 : k = 5
    · rw [if_pos k5] at h
      obtain ⟨h1, h2⟩ := run_ok s n a g u i j h hg hn
      exact ⟨h1, .inr (.inl h2)⟩
    · rw [if_neg k5] at h
      injection h with h
      subst h
      exact ⟨Nat.le_refl _, .inl ⟨by simp [k5], rfl⟩⟩
  | .mk k f [x, y], i, j, h, hg, hn => by
    rw [runS] at h
    rw [mt_two]
    by_cases k2 : k = 2
    · rw [if_pos k2] at h ⊢
      split at h
      · cases h
      · rename_i b hb
        have hbj : b ≤ j := run_le g y b j h
        obtain ⟨h3, h4⟩ := run_ok s n a g x i b hb (fun q hq => hg q (by omega)) (by omega)
        obtain ⟨h1, h2⟩ := run_ok s n a g y b j h hg hn
        exact ⟨by omega, a + b, h4, h2⟩
    · rw [if_neg k2] at h ⊢
      obtain ⟨h1, h2⟩ := run_ok s n a g x i j h hg hn
      exact ⟨h1, .inl h2⟩
  | .mk k f (_ :: _ :: _ :: _), i, j, h, hg, hn => by rw [runS] at h; cases h
where run_le (g : Nat → Nat) : ∀ (t : Tr) (i j : Nat), runS g t i = some j → i ≤ j
  | .mk k f [], i, j, h => by
    rw [runS] at h
    split at h
    · split at h
      · injection h with h; omega
      · cases h
    · split at h
      · cases h
      · split at h
        · cases h
        · injection h with h; omega
  | .mk k f [u], i, j, h => by
    rw [runS] at h
    split at h
    · exact run_le g u i j h
    · injection h with h; omega
  | .mk k f [x, y], i, j, h => by
    rw [runS] at h
    split at h
    · split at h
      · cases h
      · rename_i b hb
        have h1 := run_le g x i b hb
        have h2 := run_le g y b j h
        omega
    · exact run_le g x i j h
  | .mk k f (_ :: _ :: _ :: _), i, j, h => by rw [runS] at h; cases h

/-- a text of n a's, and one byte behind it -/
def asL (n : Nat) : List UInt8 := List.replicate n 97
theorem byt_st (l : List UInt8) (a : Nat) : byt (st l) a = (l.getD a 0).toNat := rfl
theorem byt_lt (s : ByteArray) (a : Nat) : byt s a < 256 := UInt8.toNat_lt _
theorem byt_as (n a : Nat) (h : a < n) : byt (st (asL n)) a = 97 := by
  rw [byt_st]
  unfold asL
  rw [List.getD_eq_getElem?_getD, List.getElem?_replicate, if_pos h]
  rfl
theorem byt_as1 (n : Nat) (c : UInt8) (a : Nat) (h : a < n) : byt (st (asL n ++ [c])) a = 97 := by
  rw [byt_st]
  unfold asL
  rw [List.getD_eq_getElem?_getD, List.getElem?_append_left (by simpa using h), List.getElem?_replicate, if_pos h]
  rfl
theorem byt_as2 (n : Nat) (c : UInt8) : byt (st (asL n ++ [c])) n = c.toNat := by
  rw [byt_st]
  unfold asL
  rw [List.getD_eq_getElem?_getD, List.getElem?_append_right (by simp)]
  simp
/-- what Find tells of both texts, of a tree that ends in a byte of its own -/
theorem long_no (t : Tr) (hs : shapedS t = true) (c n : Nat) (hl : lastS c t = true) (hc : c ≠ 97) : fdRun (oS (progS t false) false (st (asL n))) ((st (asL n)).size + 1) (newS (oS (progS t false) false (st (asL n))) 0) (0, 0) false = ((0, 0), false) := by
  have hz : (st (asL n)).size = n := by rw [st_size]; simp [asL]
  have hf := fd_means t hs (st (asL n)) 0 (Nat.zero_le _) _ rfl
  generalize fdRun (oS (progS t false) false (st (asL n))) ((st (asL n)).size + 1) (newS (oS (progS t false) false (st (asL n))) 0) (0, 0) false = R at *
  rcases hf with ⟨-, -, -, -, h, -⟩ | ⟨h, -⟩
  · obtain ⟨h1, h2, h3⟩ := last_ok _ _ c (byt_lt _) t _ _ hl h
    rw [byt_as n _ (by omega)] at h3
    exact absurd h3.symm hc
  · exact h
theorem long_yes (t : Tr) (hs : shapedS t = true) (c : UInt8) (n m : Nat) (hl : lastS c.toNat t = true) (hc : c.toNat ≠ 97) (hm : leastS t = m + 1) (hr : runS (fun i => if i < m then 97 else c.toNat) t 0 = some (m + 1)) :
    ∃ a e : Nat, fdRun (oS (progS t false) false (st (asL n ++ [c]))) ((st (asL n ++ [c])).size + 1) (newS (oS (progS t false) false (st (asL n ++ [c]))) 0) (0, 0) false = ((a, e), decide (m ≤ n)) ∧ (m ≤ n → e = n + 1) := by
  have hz : (st (asL n ++ [c])).size = n + 1 := by rw [st_size]; simp [asL]
  rcases fd_means t hs (st (asL n ++ [c])) 0 (Nat.zero_le _) _ rfl with ⟨h1, h2, h3, h4, h5, h6⟩ | ⟨h1, h2⟩
  · obtain ⟨g1, g2, g3⟩ := last_ok _ _ c.toNat (byt_lt _) t _ _ hl h5
    have g4 := least_ok _ _ t _ _ h5
    generalize fdRun (oS (progS t false) false (st (asL n ++ [c]))) ((st (asL n ++ [c])).size + 1) (newS (oS (progS t false) false (st (asL n ++ [c]))) 0) (0, 0) false = R at *
    obtain ⟨⟨a, e⟩, ok⟩ := R
    simp only at h1 h2 h3 h4 h5 g1 g2 g3 g4
    have he : e = n + 1 := by
      rcases Nat.lt_or_ge (e - 1) n with h7 | h7
      · rw [byt_as1 n c _ h7] at g3
        exact absurd g3.symm hc
      · omega
    have hmn : m ≤ n := by omega
    exact ⟨a, e, by rw [h1, decide_eq_true hmn], fun _ => he⟩
  · refine ⟨0, 0, ?_, fun hmn => ?_⟩
    · rw [h1]
      by_cases hmn : m ≤ n
      · exfalso
        obtain ⟨-, h⟩ := run_ok (byt (st (asL n ++ [c]))) (n + 1) (n - m) _ t 0 (m + 1) hr (fun q hq => by
          by_cases h7 : q < m
          · rw [if_pos h7]; exact byt_as1 n c _ (by omega)
          · rw [if_neg h7, show n - m + q = n by omega]; exact byt_as2 n c) (by omega)
        exact h2 (n - m) (n - m + (m + 1)) (Nat.zero_le _) (by omega) (by rw [hz]; exact h)
      · rw [decide_eq_false hmn]
    · exfalso
      obtain ⟨-, h⟩ := run_ok (byt (st (asL n ++ [c]))) (n + 1) (n - m) _ t 0 (m + 1) hr (fun q hq => by
        by_cases h7 : q < m
        · rw [if_pos h7]; exact byt_as1 n c _ (by omega)
        · rw [if_neg h7, show n - m + q = n by omega]; exact byt_as2 n c) (by omega)
      exact h2 (n - m) (n - m + (m + 1)) (Nat.zero_le _) (by omega) (by rw [hz]; exact h)

def lq0 : List UInt8 := [40, 97, 42, 41, 42, 98]
def lq1 : List UInt8 := [40, 97, 124, 97, 124, 97, 97, 41, 42, 99]
def lq2 : List UInt8 := [40, 97, 63, 41, 123, 50, 48, 125, 97, 123, 50, 48, 125, 100]
def lq3 : List UInt8 := [40, 40, 97, 43, 41, 43, 41, 43, 98]
def tq (l : List UInt8) : Tr := (parseS l (fun _ => none) (8 * l.length + 8)).1
/-- all that is asked of one of them -/
def QOk (l : List UInt8) (c : UInt8) (m : Nat) : Prop :=
  parseS l (fun _ => none) (8 * l.length + 8) = (tq l, 0, 0) ∧ rightS (tq l) = true ∧ shapedS (tq l) = true ∧ lastS c.toNat (tq l) = true ∧ leastS (tq l) = m + 1 ∧ runS (fun i => if i < m then 97 else c.toNat) (tq l) 0 = some (m + 1)
theorem q0 : QOk lq0 98 0 := ⟨by kernel_rfl, by kernel_rfl, by kernel_rfl, by kernel_rfl, by kernel_rfl, by kernel_rfl⟩
theorem q1 : QOk lq1 99 0 := ⟨by kernel_rfl, by kernel_rfl, by kernel_rfl, by kernel_rfl, by kernel_rfl, by kernel_rfl⟩
theorem q2 : QOk lq2 100 20 := ⟨by kernel_rfl, by kernel_rfl, by kernel_rfl, by kernel_rfl, by kernel_rfl, by kernel_rfl⟩
theorem q3 : QOk lq3 98 1 := ⟨by kernel_rfl, by kernel_rfl, by kernel_rfl, by kernel_rfl, by kernel_rfl, by kernel_rfl⟩

end Go.Proofs.Ytaneblecgjahbab.nfa

namespace Go.Proofs.Ytaneblecgjahbab.app
open Go.RowKit Go.Proofs.Ytaneblecgjahbab.sum Go.Proofs.Ytaneblecgjahbab.kept
set_option linter.unusedVariables false

theorem info5 : (Try.prog.info? 5).map (fun i => (i.zero, i.size, i.bytes)) = some (some (.int .u8 0), 1, 1) := by kernel_rfl

/-- what append leaves -/
def App (base : Nat) (w : World) (v : Value) (bs cs : List UInt8) (v' : Value) (w' : World) : Prop :=
  w'.ownsRow base 5 1 v' (bs ++ cs).length ((bs ++ cs).map B) ∧ w.grownBy w' v.ownBlock ∧ (v' = .slice none 0 0 ↔ v = .slice none 0 0 ∧ cs = []) ∧ (v'.ownBlock = v.ownBlock ∨ v'.ownBlock = some w.heap.size)

theorem run_append_zero (w : World) (ty : TypeId) (v : Value) (base n : Nat) (xs : List Value) (hown : w.ownsRow base 5 1 v n xs) (a : Option Addr) (c : Nat) :
    (Builtin.append_ #[40, 40] ty #[v, .slice a 0 c]).run Try.prog w = .ok v w := by
  obtain ⟨i0, hi, hz0, hz1, hz2⟩ := info_parts info5
  have hf : ∀ w : World, (Builtin.firstCells 1 0 (.slice a 0 c)).run Try.prog w = .ok #[] w := by
    intro w
    cases a with
    | none => exact run_firstCells_none w 1 0 0 c
    | some a => exact run_firstCells_some w 1 0 a 0 c [] rfl (fun j u h => by simp at h)
  rcases hown.2 with ⟨rfl, rfl⟩ | ⟨g, cap, cur, rfl, _, hg, h1, _⟩
  · simp [Builtin.append_, run_underlying Try.underlying40, sizeOf, typeInfo, hi, hz1, Builtin.lenOf, hf]
  · simp [Builtin.append_, run_underlying Try.underlying40, sizeOf, typeInfo, hi, hz1, Builtin.lenOf, hf, h1, storeCells]

theorem run_append_bs (w : World) (ty : TypeId) (base : Nat) (v : Value) (bs : List UInt8) (hown : w.ownsRow base 5 1 v bs.length (bs.map B)) (xv : Value) (cs : List UInt8) (hx : Bs w xv cs)
    (hb : bs.length + cs.length ≤ 140737488355328) (hbase : base ≤ w.heap.size) :
    ∃ v' w', (Builtin.append_ #[40, 40] ty #[v, xv]).run Try.prog w = .ok v' w' ∧ App base w v bs cs v' w' := by
  obtain ⟨i0, hi, hz0, hz1, hz2⟩ := info_parts info5
  obtain ⟨a, cap, rfl, h1, h2, h3⟩ := hx
  by_cases hcs : cs = []
  · subst hcs
    refine ⟨v, w, run_append_zero w ty v base _ _ hown a cap, ?_, World.grownBy.refl _ _, by simp, .inl rfl⟩
    simpa using hown
  · obtain ⟨b, o, rfl, hc⟩ := h3 hcs
    have hmx : bs.length + cs.length ≤ maxLen := by unfold maxLen; omega
    obtain ⟨v', w', hr, k1, k2, k3, k4⟩ := run_append_own_at (P := Try.prog) w base 40 ty 5 i0 (.int .u8 0) 1 1 Try.underlying40 hi hz0 hz1 hz2 rfl (by decide) v bs.length _ hown ⟨b, o, none⟩ cs.length cap (cs.map B)
      (by simp) (fun j u hu => by
        rw [addr_add]
        have hj : j < cs.length := by simpa using (List.getElem?_eq_some_iff.1 hu).1
        rw [hc j hj]
        simpa [List.getD, hj] using hu) (fun u hu => by obtain ⟨_, _, rfl⟩ := List.mem_map.1 hu; rfl) hmx (by omega) hbase
    refine ⟨v', w', hr, by simpa using k1, k2, ?_, k4⟩
    rw [k3]
    simp [List.length_eq_zero_iff]

theorem wpList_append_bs (w : World) {ops : Array Oper} {rest : List Oper} {o : Oper} {a : Act} {Q : Exit → Act → World → Prop} (hgd : o.guard = none) (s x : Operand)
    (ho : o.op = .call { callee := .builtin .append, args := #[s, x], argTypes := #[40, 40] })
    (base : Nat) (v : Value) (bs : List UInt8) (hs : a.eval s = v) (hown : w.ownsRow base 5 1 v bs.length (bs.map B)) (xv : Value) (cs : List UInt8) (hx : a.eval x = xv) (hxs : Bs w xv cs)
    (hb : bs.length + cs.length ≤ 140737488355328) (hbase : base ≤ w.heap.size)
    (h : ∀ v' w', App base w v bs cs v' w' → wpList Try.prog ops Q rest (a.put o.dst v') w') :
    wpList Try.prog ops Q (o :: rest) a w := by
  refine wpList_plain hgd fun K hK => ?_
  obtain ⟨v', w', hr, h2⟩ := run_append_bs w o.type base v bs hown xv cs hxs hb hbase
  unfold Oper.wp execOp
  simp only [ho, resolve, invoke, builtin, Sem.run_bind, Sem.run_pure, Result.andThen_ok, List.map_toArray, List.map_cons, List.map_nil, hs, hx, hr]
  exact hK _ _ (h v' w' h2)

theorem strCells_bs (s : ByteArray) : Lib.strCells s = s.data.toList.map B := rfl

theorem run_append_str (w : World) (ty : TypeId) (base : Nat) (v : Value) (bs : List UInt8) (hown : w.ownsRow base 5 1 v bs.length (bs.map B)) (s : ByteArray)
    (hb : bs.length + s.size ≤ 140737488355328) (hbase : base ≤ w.heap.size) :
    ∃ v' w', (Builtin.append_ #[40, 9] ty #[v, .string s]).run Try.prog w = .ok v' w' ∧ App base w v bs s.data.toList v' w' := by
  obtain ⟨i0, hi, hz0, hz1, hz2⟩ := info_parts info5
  have hmx : bs.length + s.size ≤ maxLen := by unfold maxLen; omega
  obtain ⟨v', w', hr, k1, k2, k3⟩ := Lib.run_append_own_string (P := Try.prog) w base 40 9 ty 5 i0 Try.underlying40 Try.underlying9 hi hz0 hz1 hz2 v bs.length _ hown s hmx hb hbase
  have hsz : s.data.toList.length = s.size := by rw [Array.length_toList]; rfl
  refine ⟨v', w', hr, ?_, k2, ?_, ?_⟩
  · rw [List.length_append, hsz, List.map_append, ← strCells_bs]; exact k1
  · rw [k3]
    constructor
    · rintro ⟨h1, h2⟩; exact ⟨h1, List.eq_nil_of_length_eq_zero (by omega)⟩
    · rintro ⟨h1, h2⟩; rw [h2] at hsz; exact ⟨h1, by simpa using hsz.symm⟩
  · have hS : Src Try.prog i0.size 9 (.string s) s.size (Go.byteCells s) w := by rw [hz1]; exact Src.ofString w Try.underlying9 s
    have hsl : (Go.byteCells s).length = s.size := byteCells_length s
    rcases hown.2 with ⟨rfl, h0⟩ | ⟨g, cap, cur, rfl, _, hg, r1, r2, r3, r4⟩
    · by_cases hs0 : s.size = 0
      · left; rw [k3.2 ⟨rfl, hs0⟩]
      · have hgr := run_append_grow_src (P := Try.prog) w 40 9 ty 5 i0 (.int .u8 0) Try.underlying40 hi hz0 none 0 0 [] (run_firstCells_none w.drew i0.size 0 0 0) (.string s) s.size _ hS (by omega) (by omega)
          (by rw [hz2]; exact growslice_fits (by omega) (by omega))
        rw [hgr] at hr
        injection hr with e1 e2
        right; rw [← e1]; rfl
    · by_cases hroom : bs.length + s.size ≤ cap
      · have hrm := run_append_room_src (P := Try.prog) w 40 9 ty 5 i0 Try.underlying40 hi g 0 bs.length cap (.string s) s.size _ hS hroom
          (by
            intro j hj
            rw [hz1, cell_of_row w g _ cur _ (0, 0) hg]
            have hlt : 0 + bs.length * 1 + j < cur.size := by omega
            simp; omega)
          (by
            intro j hj
            rw [hz1]
            simp [World.frozen?, hg])
        rw [hrm] at hr
        injection hr with e1 e2
        left; rw [← e1]; rfl
      · have holds : ∀ j u, (bs.map B)[j]? = some u → w.drew.cell? ((⟨g, 0, none⟩ : Addr).add j) = some u := hown.cells (g := g) rfl
        have hgr := run_append_grow_src (P := Try.prog) w 40 9 ty 5 i0 (.int .u8 0) Try.underlying40 hi hz0 (some ⟨g, 0, none⟩) bs.length cap (bs.map B)
          (run_firstCells_some w.drew i0.size bs.length ⟨g, 0, none⟩ bs.length cap _ (by rw [hz1]; simp) holds) (.string s) s.size _ hS (by omega) (by omega) (by rw [hz2]; exact growslice_fits (by omega) (by omega))
        rw [hgr] at hr
        injection hr with e1 e2
        right; rw [← e1]; rfl

theorem wpList_append_str (w : World) {ops : Array Oper} {rest : List Oper} {o : Oper} {a : Act} {Q : Exit → Act → World → Prop} (hgd : o.guard = none) (sl x : Operand)
    (ho : o.op = .call { callee := .builtin .append, args := #[sl, x], argTypes := #[40, 9] })
    (base : Nat) (v : Value) (bs : List UInt8) (hs : a.eval sl = v) (hown : w.ownsRow base 5 1 v bs.length (bs.map B)) (s : ByteArray) (hx : a.eval x = .string s)
    (hb : bs.length + s.size ≤ 140737488355328) (hbase : base ≤ w.heap.size)
    (h : ∀ v' w', App base w v bs s.data.toList v' w' → wpList Try.prog ops Q rest (a.put o.dst v') w') :
    wpList Try.prog ops Q (o :: rest) a w := by
  refine wpList_plain hgd fun K hK => ?_
  obtain ⟨v', w', hr, h2⟩ := run_append_str w o.type base v bs hown s hb hbase
  unfold Oper.wp execOp
  simp only [ho, resolve, invoke, builtin, Sem.run_bind, Sem.run_pure, Result.andThen_ok, List.map_toArray, List.map_cons, List.map_nil, hs, hx, hr]
  exact hK _ _ (h v' w' h2)

end Go.Proofs.Ytaneblecgjahbab.app

namespace Go.Proofs.Ytaneblecgjahbab.writer
open Go.RowKit Go.Proofs.Ytaneblecgjahbab.sum Go.Proofs.Ytaneblecgjahbab.kept Go.Proofs.Ytaneblecgjahbab.app
set_option linter.unusedVariables false

theorem getD_lt {bs : List UInt8} {k : Nat} (h : k < bs.length) : bs.getD k 0 = bs[k] := by simp [List.getD, h]

/-- a literal of one byte, as laid by the call -/
theorem bs_one (w : World) (x : UInt8) : Bs (w.alloc (.cells #[.int .u8 (x.toNat : Int)] 5)) (.slice (some ⟨w.heap.size, 0, none⟩) 1 1) [x] := by
  refine ⟨_, 1, rfl, Nat.le_refl _, by decide, fun _ => ⟨_, _, rfl, fun k hk => ?_⟩⟩
  simp only [List.length_singleton] at hk
  obtain rfl : k = 0 := by omega
  simp [B]

theorem app_kept {S : Nat → Prop} {base : Nat} {w w1 : World} {o : Obj} {v v' : Value} {bs cs : List UInt8} (h : App base (w.alloc o) v bs cs v' w1) (hs : ∀ k, k < w.heap.size → v.ownBlock = some k → S k) : Kp S w w1 :=
  ((Kp.refl _ w).alloc _).grown h.2.1 fun k hk e => hs k hk e
theorem app_kept0 {S : Nat → Prop} {base : Nat} {w w1 : World} {v v' : Value} {bs cs : List UInt8} (h : App base w v bs cs v' w1) (hs : ∀ k, k < w.heap.size → v.ownBlock = some k → S k) : Kp S w w1 :=
  (Kp.refl _ w).grown h.2.1 fun k hk e => hs k hk e
theorem app_fresh {base : Nat} {w w1 : World} {o : Obj} {v v' : Value} {bs cs : List UInt8} (h : App base (w.alloc o) v bs cs v' w1) : v'.ownBlock = v.ownBlock ∨ ∀ g, v'.ownBlock = some g → w.heap.size ≤ g := by
  rcases h.2.2.2 with h | h
  · exact .inl h
  · right; intro g hg; rw [h] at hg; simp at hg; omega
theorem app_fresh0 {base : Nat} {w w1 : World} {v v' : Value} {bs cs : List UInt8} (h : App base w v bs cs v' w1) : v'.ownBlock = v.ownBlock ∨ ∀ g, v'.ownBlock = some g → w.heap.size ≤ g := by
  rcases h.2.2.2 with h | h
  · exact .inl h
  · right; intro g hg; rw [h] at hg; simp at hg; omega

/-- the Writer's one cell behind the append, and the store into it -/
theorem wr_store {base p : Nat} {w w1 : World} {v v' : Value} {bs cs : List UInt8} (h : Wr base w p v bs) (hb : base ≤ w1.heap.size) (hw : w1.ownsRow base 5 1 v' (bs ++ cs).length ((bs ++ cs).map B)) (hk : Kp (fun k => some k = v.ownBlock) w w1)
    (hf : v'.ownBlock = v.ownBlock ∨ ∀ g, v'.ownBlock = some g → w.heap.size ≤ g) :
    WrPost base p v (bs ++ cs) w (.returned (.tuple #[])) (w1.setCell ⟨p, 0, none⟩ v') := by
  have hp := World.block_lt_of_cell? w _ h.cell
  simp only at hp
  have hc1 : w1.cell? ⟨p, 0, none⟩ = some v := hk.cell' h.cell (fun e => h.apart e.symm)
  have hf1 : w1.frozen? ⟨p, 0, none⟩ = false := (hk.frozen hp (fun e => h.apart e.symm)).trans h.warm
  have hap : v'.ownBlock ≠ some p := by
    rcases hf with e | e
    · rw [e]; exact h.apart
    · intro e2; have := e p e2; omega
  have hk2 : Kp (fun k => k = p) w1 (w1.setCell ⟨p, 0, none⟩ v') := (Kp.refl (fun k => k = p) _).setCell (fun _ => rfl) _
  refine ⟨rfl, v', ⟨World.cell?_setCell_same w1 _ v' hc1, ?_, owns_kept hw hk2 ?_, hap, ?_⟩, ?_, hf⟩
  · rw [World.frozen?_setCell]; exact hf1
  · rintro k e rfl; exact hap e
  · simp [World.setCell]; exact hb
  · exact (hk.mono (fun k _ e => Or.inr e)).trans hk2 (fun i _ e => Or.inl e)

theorem WrPost.refl {base p : Nat} {w : World} {v : Value} {bs : List UInt8} (h : Wr base w p v bs) : WrPost base p v bs w (.returned (.tuple #[])) w := ⟨rfl, v, h, Kp.refl _ _, .inl rfl⟩

/-- A Writer call behind another. -/
theorem wr_join {base p : Nat} {w w1 w2 : World} {v v1 : Value} {bs cs : List UInt8} {e : Ending} (h : WrAt base p v bs w v1 w1) (k : WrPost base p v1 cs w1 e w2) : WrPost base p v cs w e w2 := by
  obtain ⟨h1, h2, h3⟩ := h
  obtain ⟨rfl, v2, k1, k2, k3⟩ := k
  refine ⟨rfl, v2, k1, h2.trans k2 ?_, ?_⟩
  · rintro i hi (e | e)
    · exact .inl e
    · rcases h3 with h3 | h3
      · right; rw [← h3]; exact e
      · have := h3 i e.symm; omega
  · rcases k3 with k3 | k3
    · rw [k3]
      rcases h3 with h3 | h3
      · exact .inl h3
      · exact .inr h3
    · right; intro g hg; have := k3 g hg; have := h2.size; omega

/-- how many numbers a uint64 has: behind a name, for the walk's sake -/
def U64 : Nat := 18446744073709551616
theorem u64_eq : U64 = 18446744073709551616 := rfl

/-- a number's bytes -/
def num (n : Nat) : List UInt8 := if h : n < 128 then [n.toUInt8] else (n % 128 + 128).toUInt8 :: num (n / 128)
termination_by n
decreasing_by omega

theorem num_small {n : Nat} (h : n < 128) : num n = [n.toUInt8] := by rw [num]; simp [h]
theorem num_big {n : Nat} (h : ¬ n < 128) : num n = (n % 128 + 128).toUInt8 :: num (n / 128) := by rw [num]; simp [h]
theorem num_len (n k : Nat) (hk : n < 128 ^ k) (h1 : 0 < k) : (num n).length ≤ k := by
  induction k generalizing n with
  | zero => omega
  | succ k ih =>
    by_cases h : n < 128
    · rw [num_small h]; simp
    · rw [num_big h]
      have h2 : n / 128 < 128 ^ k := by rw [Nat.pow_succ] at hk; omega
      have hk0 : 0 < k := by
        rcases Nat.eq_zero_or_pos k with rfl | h3
        · simp at h2; omega
        · exact h3
      have := ih (n / 128) h2 hk0
      simp; omega

theorem or128_fin : ∀ k : Fin 256, bits .or .u8 ((k.val : Nat) : Int) 128 = ((k.val % 128 + 128 : Nat) : Int) := by decide +kernel
theorem or128 (m : Nat) : bits .or .u8 ((m : Int) % 256) 128 = ((m % 128 + 128 : Nat) : Int) := by
  have h := or128_fin ⟨m % 256, by omega⟩
  simp only at h
  rw [show ((m : Int) % 256) = ((m % 256 : Nat) : Int) by omega, h]
  congr 1
  omega

def NumRel (base p : Nat) (v : Value) (bs : List UInt8) (n : Nat) (w : World) (t : Value) (wr : World) : Prop :=
  ∃ (m : Nat) (pre : List UInt8), t = .int .u64 m ∧ m < U64 ∧ pre ++ num m = num n ∧ WrPost base p v (bs ++ pre) w (.returned (.tuple #[])) wr

end Go.Proofs.Ytaneblecgjahbab.writer

namespace Go.Proofs.Ytaneblecgjahbab.clone
open Go.RowKit Go.Proofs.Ytaneblecgjahbab.sum Go.Proofs.Ytaneblecgjahbab.kept Go.Proofs.Ytaneblecgjahbab.app Go.Proofs.Ytaneblecgjahbab.writer
set_option linter.unusedVariables false

/-- A new row of these bytes, in new memory. -/
def NewBs (w : World) (bs : List UInt8) (e : Ending) (w' : World) : Prop :=
  ∃ v', e = .returned v' ∧ w'.ownsRow w.heap.size 5 1 v' bs.length (bs.map B) ∧ Kp No w w'

end Go.Proofs.Ytaneblecgjahbab.clone

namespace Go.Proofs.Ytaneblecgjahbab.known
open Go.RowKit Go.Proofs.Ytaneblecgjahbab.sum Go.Proofs.Ytaneblecgjahbab.kept Go.Proofs.Ytaneblecgjahbab.app Go.Proofs.Ytaneblecgjahbab.writer Go.Proofs.Ytaneblecgjahbab.clone
set_option linter.unusedVariables false

/-- bytes as a text -/
theorem conv_bs {w : World} {v : Value} {bs : List UInt8} (h : Bs w v bs) : (convert 40 9 v).run Try.prog w = .ok (.string ⟨bs.toArray⟩) w := by
  obtain ⟨a, cap, rfl, h1, h2, h3⟩ := h
  by_cases hbs : bs = []
  · subst hbs
    cases a with
    | none => exact run_convert_bytes_nil w 40 5 Try.underlying40 Try.underlying5 _ _ _ Try.underlying9
    | some ad => exact run_convert_bytes_back w 40 9 5 ad cap [] Try.underlying40 Try.underlying5 Try.underlying9 (fun j hj => by simp at hj)
  · obtain ⟨b, o, rfl, hc⟩ := h3 hbs
    refine run_convert_bytes_back w 40 9 5 ⟨b, o, none⟩ cap bs Try.underlying40 Try.underlying5 Try.underlying9 (fun j hj => ?_)
    rw [addr_add, hc j hj]
    simp [B, List.getD, hj]

/-- a literal of bytes, as laid by the call -/
theorem bs_lit (w : World) (bs : List UInt8) (fr : Nat × Nat) (hl : bs.length ≤ maxLen) : Bs (w.alloc (.cells (bs.map B).toArray 5 fr)) (.slice (some ⟨w.heap.size, 0, none⟩) bs.length bs.length) bs := by
  refine ⟨_, _, rfl, Nat.le_refl _, hl, fun _ => ⟨_, _, rfl, fun k hk => ?_⟩⟩
  rw [World.cell?_alloc_mark]
  simp [List.getD, hk]

end Go.Proofs.Ytaneblecgjahbab.known

namespace Go.Proofs.Ytaneblecgjahbab.unseal
open Go.RowKit Go.Proofs.Ytaneblecgjahbab.sum Go.Proofs.Ytaneblecgjahbab.kept Go.Proofs.Ytaneblecgjahbab.app Go.Proofs.Ytaneblecgjahbab.writer Go.Proofs.Ytaneblecgjahbab.clone Go.Proofs.Ytaneblecgjahbab.known
set_option linter.unusedVariables false

/-- behind a draw everything reads as before -/
theorem bs_drewN {w : World} {v : Value} {bs : List UInt8} (n : Nat) (h : Bs w v bs) : Bs (w.drewN n) v bs := bs_no h ((Kp.refl _ _).drewN n)

/-- a cut of a slice of bytes -/
theorem bs_take {w : World} {b : Option Addr} {len cap : Nat} {bs : List UInt8} (h : Bs w (.slice b len cap) bs) (k : Nat) (hk : k ≤ len) : Bs w (.slice b k cap) (bs.take k) := by
  obtain ⟨a, c, e, h1, h2, h3⟩ := h
  simp only [Value.slice.injEq] at e
  obtain ⟨rfl, rfl, rfl⟩ := e
  refine ⟨b, cap, by rw [List.length_take, Nat.min_eq_left hk], by rw [List.length_take]; omega, h2, fun hne => ?_⟩
  obtain ⟨B, o, rfl, hc⟩ := h3 (by intro e; subst e; simp at hne)
  refine ⟨B, o, rfl, fun i hi => ?_⟩
  rw [List.length_take] at hi
  rw [hc i (by omega)]
  simp [List.getD, show i < k by omega]

theorem bs_drop {w : World} {b o len cap : Nat} {bs : List UInt8} (h : Bs w (.slice (some ⟨b, o, none⟩) len cap) bs) (k : Nat) (hk : k ≤ len) (ao : Option Addr) (hao : ¬ k = cap → ao = some ⟨b, o + k, none⟩) : Bs w (.slice ao (len - k) (cap - k)) (bs.drop k) := by
  obtain ⟨a, c, e, h1, h2, h3⟩ := h
  simp only [Value.slice.injEq] at e
  obtain ⟨rfl, rfl, rfl⟩ := e
  refine ⟨ao, _, by rw [List.length_drop], by rw [List.length_drop]; omega, by omega, fun hne => ?_⟩
  have hlt : k < bs.length := by
    rcases Nat.lt_or_ge k bs.length with h | h
    · exact h
    · rw [List.drop_of_length_le h] at hne; exact absurd rfl hne
  obtain ⟨B, o', e, hc⟩ := h3 (by intro e; subst e; simp at hlt)
  cases e
  refine ⟨_, _, hao (by omega), fun i hi => ?_⟩
  rw [List.length_drop] at hi
  rw [Nat.add_assoc, hc (k + i) (by omega)]
  simp [List.getD]

end Go.Proofs.Ytaneblecgjahbab.unseal

namespace Go.Proofs.Ytaneblecgjahbab.turned
open Go.RowKit Go.Proofs.Ytaneblecgjahbab.sum Go.Proofs.Ytaneblecgjahbab.kept Go.Proofs.Ytaneblecgjahbab.app Go.Proofs.Ytaneblecgjahbab.writer Go.Proofs.Ytaneblecgjahbab.clone Go.Proofs.Ytaneblecgjahbab.known Go.Proofs.Ytaneblecgjahbab.unseal
set_option linter.unusedVariables false

theorem tmod_pos (n m : Int) (hm : 0 < m) : -m < n.tmod m ∧ n.tmod m < m ∧ (0 ≤ n.tmod m → n.tmod m = n % m) ∧ (n.tmod m < 0 → n.tmod m + m = n % m) := by
  have h1 := Int.tmod_lt_of_pos n hm
  have h2 := Int.tmod_lt_of_pos (-n) hm
  rw [Int.neg_tmod] at h2
  have h3 := Int.tmod_add_mul_tdiv n m
  refine ⟨by omega, h1, ?_, ?_⟩
  · intro h
    have e : n % m = (n.tmod m + m * n.tdiv m) % m := by rw [h3]
    rw [e, Int.add_mul_emod_self_left, Int.emod_eq_of_lt h h1]
  · intro h
    have e : n % m = (n.tmod m + m + m * (n.tdiv m - 1)) % m := by rw [Int.mul_sub]; congr 1; omega
    rw [e, Int.add_mul_emod_self_left, Int.emod_eq_of_lt (by omega) (by omega)]

theorem bs_set {w : World} {b o len cap : Nat} {bs : List UInt8} (h : Bs w (.slice (some ⟨b, o, none⟩) len cap) bs) (k : Nat) (hk : k < len) (y : UInt8) : Bs (w.setCell ⟨b, o + k, none⟩ (B y)) (.slice (some ⟨b, o, none⟩) len cap) (bs.set k y) := by
  obtain ⟨a, c, e, h1, h2, h3⟩ := h
  simp only [Value.slice.injEq] at e
  obtain ⟨rfl, rfl, rfl⟩ := e
  refine ⟨_, cap, by rw [List.length_set], by rw [List.length_set]; exact h1, h2, fun _ => ⟨b, o, rfl, fun i hi => ?_⟩⟩
  rw [List.length_set] at hi
  obtain ⟨b', o', e, hc⟩ := h3 (by intro e; subst e; simp at hk)
  cases e
  by_cases hik : i = k
  · subst hik
    rw [World.cell?_setCell_same w _ _ (hc i hi)]
    simp [List.getD, hi]
  · rw [World.cell?_setCell_other w _ _ _ (by simp <;> omega), hc i hi]
    simp [List.getD, List.getElem?_set, Ne.symm hik]

end Go.Proofs.Ytaneblecgjahbab.turned

namespace Go.Proofs.Ytaneblecgjahbab.turned
open Go.RowKit Go.Proofs.Ytaneblecgjahbab.sum Go.Proofs.Ytaneblecgjahbab.kept Go.Proofs.Ytaneblecgjahbab.app Go.Proofs.Ytaneblecgjahbab.writer Go.Proofs.Ytaneblecgjahbab.clone Go.Proofs.Ytaneblecgjahbab.known Go.Proofs.Ytaneblecgjahbab.unseal
set_option linter.unusedVariables false

set_option maxRecDepth 100000 in
set_option maxHeartbeats 1000000 in
theorem pick_any (n m : Int) (hm : 0 < m) (hm2 : m ≤ 1000000000000000) (w : World) :
    Calls Try.prog 10 #[.int .i64 n, .int .i64 m] w fun e w' => e = .returned (.int .i64 (n % m)) ∧ w = w' := by
  obtain ⟨h1, h2, h3, h4⟩ := tmod_pos n m hm
  obtain ⟨t, ht⟩ : ∃ t, n.tmod m = t := ⟨_, rfl⟩
  rw [ht] at h1 h2 h3 h4
  have H3 := Hid_mk h3
  have H4 := Hid_mk h4
  clear h3 h4
  have hne : ¬ m = 0 := by omega
  have hne1 : ¬ m = -1 := by omega
  by_cases hneg : t < 0
  · go_enter Try.func10, Try.ntmps10
    go_wp2
    go_ret
    rw [H4.out hneg]
    exact ⟨rfl, rfl⟩
  · go_enter Try.func10, Try.ntmps10
    go_wp2
    go_ret
    rw [H3.out (by omega)]
    exact ⟨rfl, rfl⟩

end Go.Proofs.Ytaneblecgjahbab.turned

namespace Go.Proofs.Ytaneblecgjahbab.ere
open Go.RowKit Go.Proofs.Ytaneblecgjahbab.sum Go.Proofs.Ytaneblecgjahbab.kept Go.Proofs.Ytaneblecgjahbab.str
set_option linter.unusedVariables false

theorem run_add_str (xs ys : List UInt8) (h : xs.length + ys.length ≤ 1000000000) (W : World) : (Op.stringOp .add ⟨xs.toArray⟩ ⟨ys.toArray⟩).run Try.prog W = .ok (.string ⟨(xs ++ ys).toArray⟩) W := by
  have e : (⟨xs.toArray⟩ : ByteArray) ++ ⟨ys.toArray⟩ = ⟨(xs ++ ys).toArray⟩ := by
    apply ByteArray.ext
    simp
  rw [← e]
  refine run_string_add_sum (P := Try.prog) (w := W) _ _ ?_
  show xs.toArray.size + ys.toArray.size ≤ _
  simp
  omega

end Go.Proofs.Ytaneblecgjahbab.ere
