/- The reference's Right and Sets of a tree. Package nfa, plainly: how a tree's parts are laid down. A row of one's own: one of its cells is written; its beginning alone. Package ere: the reader; does one of these bytes stand next; numbers. -/
import Derived.Test.YtaneblecgjahbabRefTree
import Derived.Test.YtaneblecgjahbabEreListM
import Derived.Test.YtaneblecgjahbabErePartM
import Derived.Lib.IndexAny
import Derived.BigQuiet

namespace Go.Proofs.Ytaneblecgjahbab.tre
open Go.RowKit Go.Proofs.Ytaneblecgjahbab.sum Go.Proofs.Ytaneblecgjahbab.kept Go.Proofs.Ytaneblecgjahbab.pop Go.Proofs.Ytaneblecgjahbab.cls
set_option linter.unusedVariables false

def rightS (t : Tr) : Bool := shapedS t && deepS t 40 && decide (setsS t ≤ 400)

set_option maxRecDepth 100000 in
set_option maxHeartbeats 1000000 in
theorem right_any {T : Nat → Prop} (w : World) (v : Value) (t : Tr) (hv : ReV T w t v) (hle : setsS t ≤ 4611686018427387904) :
    Calls Try.prog 12 #[v] w fun e w' => e = .returned (.bool (rightS t)) ∧ Kp No w w' := by
  have HC1 := Hid_mk fun W (hk : Kp No w W) => shaped_any t.size t (Nat.le_refl _) W v (ReV.no hk t v hv)
  have HC2 : Hid (∀ W, Kp No w W → Calls Try.prog 34 #[v, .int .i64 40] W fun e w' => e = .returned (.bool (deepS t 40)) ∧ Kp No W w') := Hid_mk fun W (hk : Kp No w W) => deep_any t.size t (Nat.le_refl _) W v 40 (by decide) (ReV.no hk t v hv)
  have HC3 := Hid_mk fun W (hk : Kp No w W) => sets_any t.size t (Nat.le_refl _) W v (ReV.no hk t v hv) hle
  have hr : rightS t = (shapedS t && deepS t 40 && decide (setsS t ≤ 400)) := rfl
  rw [hr]
  generalize shapedS t = A at HC1
  generalize deepS t 40 = D at HC2
  generalize hS : setsS t = S at HC3
  obtain ⟨k, f, l⟩ := t
  obtain ⟨a, c, rfl, -, -, -⟩ := hv
  generalize l.length = L at HC1 HC2 HC3
  clear hr hS hle
  have hkeep : ∀ W, Kp No (w.alloc (.cells (cellsR k f a L c) 30)) W → (W.cell? ⟨w.heap.size, 0, none⟩ = some (.int .i64 k) ∧ W.cell? ⟨w.heap.size, 1, none⟩ = some (.int .u64 (wd f 0 64 : Nat)) ∧ W.cell? ⟨w.heap.size, 2, none⟩ = some (.int .u64 (wd f 64 64 : Nat)) ∧ W.cell? ⟨w.heap.size, 3, none⟩ = some (.int .u64 (wd f 128 64 : Nat)) ∧ W.cell? ⟨w.heap.size, 4, none⟩ = some (.int .u64 (wd f 192 64 : Nat)) ∧ W.cell? ⟨w.heap.size, 5, none⟩ = some (.slice a L c)) := fun W hk =>
    ⟨hk.cell' (by simp) id, hk.cell' (by simp) id, hk.cell' (by simp) id, hk.cell' (by simp) id, hk.cell' (by simp) id, hk.cell' (by simp) id⟩
  have HKeep := Hid_mk hkeep
  have HK0 := Hid_mk ((Kp.refl No w).alloc (.cells (cellsR k f a L c) 30))
  clear hkeep
  unfold cellsR at HKeep HC1 HC2 HC3 HK0
  have hle4 : ((S : Int) ≤ 400) ↔ S ≤ 400 := by omega
  have HLe := Hid_mk hle4
  clear hle4
  go_enter Try.func12, Try.ntmps12
  unfold cellsR
  go_wp2_with fail
  with_reducible refine (HC1.out _ HK0.out).mono ?_
  rintro e w1 ⟨rfl, k1⟩
  obtain ⟨c0, c1, c2, c3, c4, c5⟩ := HKeep.out w1 k1
  have HK1 := Hid_mk k1
  clear k1
  cases A with
  | false =>
    go_wp2
    go_ret
    exact ⟨by simp, HK0.out.trans' HK1.out⟩
  | true =>
    go_wp2_with fail
    with_reducible refine (HC2.out _ (HK0.out.trans' HK1.out)).mono ?_
    rintro e w2 ⟨rfl, k2⟩
    have HK2 := Hid_mk (HK1.out.trans' k2)
    clear k2 c0 c1 c2 c3 c4 c5
    obtain ⟨c0, c1, c2, c3, c4, c5⟩ := HKeep.out w2 HK2.out
    cases D with
    | false =>
      go_wp2
      go_ret
      exact ⟨by simp, HK0.out.trans' HK2.out⟩
    | true =>
      go_wp2_with fail
      with_reducible refine (HC3.out _ (HK0.out.trans' HK2.out)).mono ?_
      rintro e w3 ⟨rfl, k3⟩
      have HK3 := Hid_mk (HK2.out.trans' k3)
      clear k3 c0 c1 c2 c3 c4 c5
      by_cases h4 : S ≤ 400
      · have h4i : (S : Int) ≤ 400 := by omega
        go_wp2
        go_ret
        exact ⟨by rw [decide_eq_true h4]; first | rfl | (simp; done) | (simp; omega), HK0.out.trans' HK3.out⟩
      · have h4i : ¬ (S : Int) ≤ 400 := by omega
        go_wp2
        go_ret
        exact ⟨by rw [decide_eq_false h4]; first | rfl | (simp; done) | (simp; omega), HK0.out.trans' HK3.out⟩

end Go.Proofs.Ytaneblecgjahbab.tre

namespace Go.Proofs.Ytaneblecgjahbab.nfa
open Go.RowKit Go.Proofs.Ytaneblecgjahbab.sum Go.Proofs.Ytaneblecgjahbab.kept Go.Proofs.Ytaneblecgjahbab.pop Go.Proofs.Ytaneblecgjahbab.cls Go.Proofs.Ytaneblecgjahbab.tre Go.Proofs.Ytaneblecgjahbab.ere
set_option linter.unusedVariables false

def isSignK (k : Int) : Bool := decide (k = 4) || decide (k = 5) || decide (k = 6)
def addS (ps : List Part) (p : Part) : Nat × List Part := (ps.length, ps ++ [p])
/-- the part at a place leads on to another one -/
def setN (ps : List Part) (i n : Nat) : List Part := ps.modify i fun p => { p with next := n }
/-- signs above what core lays: none, or what they let be left out, come again -/
def wrapM (m : Option (Bool × Bool)) (core : Nat → List Part → Nat × List Part) (next : Nat) (ps : List Part) : Nat × List Part :=
  match m with
  | none => core next ps
  | some (no, ag) =>
    if ag = true then
      ((if no = true then ps.length else (core ps.length (ps ++ [⟨2, nul, 0, next⟩])).1), setN (core ps.length (ps ++ [⟨2, nul, 0, next⟩])).2 ps.length (core ps.length (ps ++ [⟨2, nul, 0, next⟩])).1)
    else addS (core next ps).2 ⟨2, nul, (core next ps).1, next⟩
def leafM (k : Int) (f : Nat → Bool) (nx : Nat) (qs : List Part) : Nat × List Part :=
  if k = 1 then addS qs ⟨1, f, nx, 0⟩ else if k = 7 then addS qs ⟨3, nul, nx, 0⟩ else if k = 8 then addS qs ⟨4, nul, nx, 0⟩ else (nx, qs)
def nextM (m : Option (Bool × Bool)) (k : Int) : Option (Bool × Bool) := some ((m.getD (false, false)).1 || decide (k ≠ 5), (m.getD (false, false)).2 || decide (k ≠ 6))
/-- the parts of a tree below signs: which one it begins with, and all that are there then -/
def layM : Tr → Option (Bool × Bool) → Bool → Nat → List Part → Nat × List Part
  | .mk k f [], m, bk, next, ps => wrapM m (leafM k f) next ps
  | .mk k f [u], m, bk, next, ps => layM u (nextM m k) bk next ps
  | .mk k f [a, b], m, bk, next, ps => wrapM m (fun nx qs =>
      if k = 2 then
        (if bk = true then layM b none bk (layM a none bk nx qs).1 (layM a none bk nx qs).2
         else layM a none bk (layM b none bk nx qs).1 (layM b none bk nx qs).2)
      else addS (layM b none bk nx (layM a none bk nx qs).2).2 ⟨2, nul, (layM a none bk nx qs).1, (layM b none bk nx (layM a none bk nx qs).2).1⟩) next ps
  | .mk k f (_ :: _ :: _ :: _), m, bk, next, ps => (next, ps)

theorem layM_nil (k : Int) (f : Nat → Bool) (m : Option (Bool × Bool)) (bk : Bool) (next : Nat) (ps : List Part) : layM (.mk k f []) m bk next ps = wrapM m (leafM k f) next ps := by rw [layM.eq_def]
theorem layM_one (k : Int) (f : Nat → Bool) (u : Tr) (m : Option (Bool × Bool)) (bk : Bool) (next : Nat) (ps : List Part) : layM (.mk k f [u]) m bk next ps = layM u (nextM m k) bk next ps := by rw [layM.eq_def]
def twoM (k : Int) (a b : Tr) (bk : Bool) (nx : Nat) (qs : List Part) : Nat × List Part :=
  if k = 2 then
    (if bk = true then layM b none bk (layM a none bk nx qs).1 (layM a none bk nx qs).2
     else layM a none bk (layM b none bk nx qs).1 (layM b none bk nx qs).2)
  else addS (layM b none bk nx (layM a none bk nx qs).2).2 ⟨2, nul, (layM a none bk nx qs).1, (layM b none bk nx (layM a none bk nx qs).2).1⟩
theorem layM_two (k : Int) (f : Nat → Bool) (a b : Tr) (m : Option (Bool × Bool)) (bk : Bool) (next : Nat) (ps : List Part) : layM (.mk k f [a, b]) m bk next ps = wrapM m (twoM k a b bk) next ps := by rw [layM.eq_def]; rfl
theorem setN_len (ps : List Part) (i n : Nat) : (setN ps i n).length = ps.length := by simp [setN]
theorem setN_app : ∀ (ps qs : List Part) (n : Nat), setN (ps ++ qs) ps.length n = ps ++ setN qs 0 n
  | [], qs, n => by simp [setN]
  | p :: ps, qs, n => by
    have h := setN_app ps qs n
    unfold setN at h ⊢
    rw [List.cons_append, List.length_cons, List.modify_succ_cons, h, List.cons_append]
theorem kids_one {k : Int} (h : ((1 : Nat) : Int) = kidsS k) : k = 4 ∨ k = 5 ∨ k = 6 := by
  unfold kidsS at h
  split at h
  · omega
  · split at h
    · assumption
    · split at h <;> omega
theorem kids_two {k : Int} (h : ((2 : Nat) : Int) = kidsS k) : k = 2 ∨ k = 3 := by
  unfold kidsS at h
  split at h
  · omega
  · split at h
    · omega
    · split at h
      · assumption
      · omega
theorem kids_more {k : Int} {n : Nat} (h : ((n + 3 : Nat) : Int) = kidsS k) : False := by
  unfold kidsS at h
  split at h
  · omega
  · split at h
    · omega
    · split at h <;> omega

/-- all that was there is there still -/
theorem wrap_pre {m : Option (Bool × Bool)} {core : Nat → List Part → Nat × List Part} (h : ∀ nx qs, ∃ l, (core nx qs).2 = qs ++ l) (next : Nat) (ps : List Part) : ∃ l, (wrapM m core next ps).2 = ps ++ l := by
  rcases m with _ | ⟨no, ag⟩
  · exact h next ps
  · cases ag with
    | true =>
      obtain ⟨l, e⟩ := h ps.length (ps ++ [⟨2, nul, 0, next⟩])
      refine ⟨setN ([⟨2, nul, 0, next⟩] ++ l) 0 (core ps.length (ps ++ [⟨2, nul, 0, next⟩])).1, ?_⟩
      show setN (core ps.length (ps ++ [⟨2, nul, 0, next⟩])).2 ps.length _ = _
      rw [e, List.append_assoc, setN_app]
    | false =>
      obtain ⟨l, e⟩ := h next ps
      exact ⟨l ++ [⟨2, nul, (core next ps).1, next⟩], by show (core next ps).2 ++ _ = _; rw [e, List.append_assoc]⟩
theorem leaf_pre (k : Int) (f : Nat → Bool) (nx : Nat) (qs : List Part) : ∃ l, (leafM k f nx qs).2 = qs ++ l := by
  unfold leafM addS
  split
  · exact ⟨_, rfl⟩
  · split
    · exact ⟨_, rfl⟩
    · split
      · exact ⟨_, rfl⟩
      · exact ⟨[], by simp⟩
theorem lay_pre : ∀ (t : Tr) (m : Option (Bool × Bool)) (bk : Bool) (next : Nat) (ps : List Part), ∃ l, (layM t m bk next ps).2 = ps ++ l
  | .mk k f [], m, bk, next, ps => by
    rw [layM.eq_def]
    exact wrap_pre (leaf_pre k f) next ps
  | .mk k f [u], m, bk, next, ps => by
    rw [layM.eq_def]
    exact lay_pre u _ bk next ps
  | .mk k f [a, b], m, bk, next, ps => by
    rw [layM.eq_def]
    refine wrap_pre (fun nx qs => ?_) next ps
    by_cases hk : k = 2
    · rw [if_pos hk]
      cases bk with
      | true =>
        obtain ⟨l, e⟩ := lay_pre a none true nx qs
        obtain ⟨l', e'⟩ := lay_pre b none true (layM a none true nx qs).1 (layM a none true nx qs).2
        exact ⟨l ++ l', by show (layM b none true _ _).2 = _; rw [e', e, List.append_assoc]⟩
      | false =>
        obtain ⟨l, e⟩ := lay_pre b none false nx qs
        obtain ⟨l', e'⟩ := lay_pre a none false (layM b none false nx qs).1 (layM b none false nx qs).2
        exact ⟨l ++ l', by show (layM a none false _ _).2 = _; rw [e', e, List.append_assoc]⟩
    · rw [if_neg hk]
      obtain ⟨l, e⟩ := lay_pre a none bk nx qs
      obtain ⟨l', e'⟩ := lay_pre b none bk nx (layM a none bk nx qs).2
      exact ⟨l ++ l' ++ [⟨2, nul, (layM a none bk nx qs).1, (layM b none bk nx (layM a none bk nx qs).2).1⟩], (congrArg (· ++ [_]) (e'.trans (congrArg (· ++ l') e))).trans (by simp only [List.append_assoc])⟩
  | .mk k f (_ :: _ :: _ :: _), m, bk, next, ps => by
    rw [layM.eq_def]
    exact ⟨[], by simp⟩

/-- there are no more than nodes (one more where signs stand above); what is told is among them, or next -/
def LenOk (n : Nat) (x : Option (Bool × Bool)) (next : Nat) (ps : List Part) (r : Nat × List Part) : Prop := r.2.length ≤ ps.length + n + (if x.isSome then 1 else 0) ∧ (r.1 < r.2.length ∨ r.1 = next)
theorem wrap_len {m : Option (Bool × Bool)} {core : Nat → List Part → Nat × List Part} {n : Nat} (h : ∀ nx qs, LenOk n none nx qs (core nx qs)) (hp : ∀ nx qs, ∃ l, (core nx qs).2 = qs ++ l) (next : Nat) (ps : List Part) : LenOk n m next ps (wrapM m core next ps) := by
  rcases m with _ | ⟨no, ag⟩
  · exact h next ps
  · cases ag with
    | true =>
      obtain ⟨h1, h2⟩ := h ps.length (ps ++ [⟨2, nul, 0, next⟩])
      obtain ⟨l, hl⟩ := hp ps.length (ps ++ [⟨2, nul, 0, next⟩])
      have e3 : ps.length < (core ps.length (ps ++ [⟨2, nul, 0, next⟩])).2.length := by rw [hl]; simp
      unfold wrapM
      refine ⟨?_, .inl ?_⟩
      · show (setN _ _ _).length ≤ _
        rw [setN_len]
        simp at h1 ⊢
        omega
      · show (if no = true then _ else _) < (setN _ _ _).length
        rw [setN_len]
        split
        · exact e3
        · rcases h2 with h2 | h2 <;> omega
    | false =>
      obtain ⟨h1, h2⟩ := h next ps
      refine ⟨?_, .inl ?_⟩
      · show ((core next ps).2 ++ _).length ≤ _
        simp at h1 ⊢
        omega
      · show (core next ps).2.length < ((core next ps).2 ++ _).length
        simp
theorem leaf_len (k : Int) (f : Nat → Bool) (nx : Nat) (qs : List Part) : LenOk 1 none nx qs (leafM k f nx qs) := by
  unfold leafM addS LenOk
  split
  · simp
  · split
    · simp
    · split
      · simp
      · simp
theorem lay_len : ∀ (t : Tr) (m : Option (Bool × Bool)) (bk : Bool) (next : Nat) (ps : List Part), LenOk t.size m next ps (layM t m bk next ps)
  | .mk k f [], m, bk, next, ps => by
    rw [layM.eq_def]
    exact wrap_len (n := 1) (leaf_len k f) (leaf_pre k f) next ps
  | .mk k f [u], m, bk, next, ps => by
    rw [layM.eq_def]
    obtain ⟨h1, h2⟩ := lay_len u (nextM m k) bk next ps
    refine ⟨?_, h2⟩
    simp only [nextM, Option.isSome_some, if_true] at h1
    rw [Tr.size, sizeL, sizeL]
    show (layM u (nextM m k) bk next ps).2.length ≤ _
    unfold nextM
    omega
  | .mk k f [a, b], m, bk, next, ps => by
    rw [layM.eq_def]
    have hs : (Tr.mk k f [a, b]).size = a.size + b.size + 1 := by rw [Tr.size, sizeL, sizeL, sizeL]; omega
    rw [hs]
    refine wrap_len (n := a.size + b.size + 1) (fun nx qs => ?_) (fun nx qs => ?_) next ps
    · by_cases hk : k = 2
      · rw [if_pos hk]
        cases bk with
        | true =>
          obtain ⟨h1, h2⟩ := lay_len a none true nx qs
          obtain ⟨h3, h4⟩ := lay_len b none true (layM a none true nx qs).1 (layM a none true nx qs).2
          obtain ⟨l, e⟩ := lay_pre b none true (layM a none true nx qs).1 (layM a none true nx qs).2
          simp only [Option.isSome_none] at h1 h3
          simp at h1 h3
          refine ⟨by show (layM b none true _ _).2.length ≤ _; simp; omega, ?_⟩
          show (layM b none true _ _).1 < (layM b none true _ _).2.length ∨ _
          rcases h4 with h4 | h4
          · exact .inl h4
          · rcases h2 with h2 | h2
            · refine .inl ?_
              rw [h4]
              have : (layM b none true (layM a none true nx qs).1 (layM a none true nx qs).2).2.length = (layM a none true nx qs).2.length + l.length := by rw [e, List.length_append]
              omega
            · exact .inr (h4.trans h2)
        | false =>
          obtain ⟨h1, h2⟩ := lay_len b none false nx qs
          obtain ⟨h3, h4⟩ := lay_len a none false (layM b none false nx qs).1 (layM b none false nx qs).2
          obtain ⟨l, e⟩ := lay_pre a none false (layM b none false nx qs).1 (layM b none false nx qs).2
          simp at h1 h3
          refine ⟨by show (layM a none false _ _).2.length ≤ _; simp; omega, ?_⟩
          show (layM a none false _ _).1 < (layM a none false _ _).2.length ∨ _
          rcases h4 with h4 | h4
          · exact .inl h4
          · rcases h2 with h2 | h2
            · refine .inl ?_
              rw [h4]
              have : (layM a none false (layM b none false nx qs).1 (layM b none false nx qs).2).2.length = (layM b none false nx qs).2.length + l.length := by rw [e, List.length_append]
              omega
            · exact .inr (h4.trans h2)
      · rw [if_neg hk]
        obtain ⟨h1, -⟩ := lay_len a none bk nx qs
        obtain ⟨h3, -⟩ := lay_len b none bk nx (layM a none bk nx qs).2
        simp at h1 h3
        unfold addS
        exact ⟨by simp; omega, .inl (by simp)⟩
    · by_cases hk : k = 2
      · rw [if_pos hk]
        cases bk with
        | true =>
          obtain ⟨l, e⟩ := lay_pre a none true nx qs
          obtain ⟨l', e'⟩ := lay_pre b none true (layM a none true nx qs).1 (layM a none true nx qs).2
          exact ⟨l ++ l', by show (layM b none true _ _).2 = _; rw [e', e, List.append_assoc]⟩
        | false =>
          obtain ⟨l, e⟩ := lay_pre b none false nx qs
          obtain ⟨l', e'⟩ := lay_pre a none false (layM b none false nx qs).1 (layM b none false nx qs).2
          exact ⟨l ++ l', by show (layM a none false _ _).2 = _; rw [e', e, List.append_assoc]⟩
      · rw [if_neg hk]
        obtain ⟨l, e⟩ := lay_pre a none bk nx qs
        obtain ⟨l', e'⟩ := lay_pre b none bk nx (layM a none bk nx qs).2
        exact ⟨l ++ l' ++ [⟨2, nul, (layM a none bk nx qs).1, (layM b none bk nx (layM a none bk nx qs).2).1⟩], (congrArg (· ++ [_]) (e'.trans (congrArg (· ++ l') e))).trans (by simp only [List.append_assoc])⟩
  | .mk k f (_ :: _ :: _ :: _), m, bk, next, ps => by
    rw [layM.eq_def]
    exact ⟨by simp; omega, .inr rfl⟩

/-- what does not begin with a sign is laid below signs as it is laid alone -/
theorem lay_wrap {t : Tr} (hk : isSignK t.kind = false) (hs : shapedS t = true) (m : Option (Bool × Bool)) (bk : Bool) (next : Nat) (ps : List Part) : layM t m bk next ps = wrapM m (fun nx qs => layM t none bk nx qs) next ps := by
  obtain ⟨k, f, l⟩ := t
  have hk : isSignK k = false := hk
  match l with
  | [] =>
    have e : (fun nx qs => layM (.mk k f []) none bk nx qs) = leafM k f := by funext nx qs; exact layM_nil k f none bk nx qs
    rw [layM_nil, e]
  | [u] =>
    exfalso
    rw [shapedS] at hs
    simp only [Bool.and_eq_true, decide_eq_true_eq] at hs
    have h1 : k = 4 ∨ k = 5 ∨ k = 6 := kids_one hs.1.1
    have hk2 : isSignK k = false := hk
    unfold isSignK at hk2
    rcases h1 with rfl | rfl | rfl <;> simp at hk2
  | [a, b] =>
    have e : (fun nx qs => layM (.mk k f [a, b]) none bk nx qs) = twoM k a b bk := by funext nx qs; exact layM_two k f a b none bk nx qs
    rw [layM_two, e]
  | _ :: _ :: _ :: _ =>
    exfalso
    rw [shapedS] at hs
    simp only [Bool.and_eq_true, decide_eq_true_eq] at hs
    exact kids_more hs.1.1

/-- a tree is not much larger than its leaves are many, its height great -/
theorem size_le : ∀ (t : Tr) (n : Nat), shapedS t = true → deepS t n = true → t.size + n ≤ 2 * setsS t * n
  | .mk k f [], n, hs, hd => by
    rcases n with _ | n
    · rw [deepS] at hd; cases hd
    · rw [setsS, Tr.size, sizeL]; omega
  | .mk k f [u], n, hs, hd => by
    rcases n with _ | n
    · rw [deepS] at hd; cases hd
    · rw [deepS, deepL, deepL] at hd
      rw [shapedS, shapedL, shapedL] at hs
      simp only [Bool.and_eq_true, Bool.and_true] at hs hd
      have hd' : deepS u n = true := by simpa [sameB] using hd
      have h := size_le u n hs.2 hd'
      rw [setsS, setsL, Tr.size, sizeL, sizeL]
      have h2 : 2 * (setsS u + 0) * (n + 1) = 2 * setsS u * n + 2 * setsS u := by rw [Nat.add_zero, Nat.mul_succ]
      have h3 : 1 ≤ setsS u := by
        rcases Nat.eq_zero_or_pos (setsS u) with e | e
        · rw [e] at h
          have : 1 ≤ u.size := by obtain ⟨_, _, _⟩ := u; rw [Tr.size]; omega
          omega
        · exact e
      omega
  | .mk k f [a, b], n, hs, hd => by
    rcases n with _ | n
    · rw [deepS] at hd; cases hd
    · rw [deepS, deepL, deepL, deepL] at hd
      rw [shapedS, shapedL, shapedL, shapedL] at hs
      simp only [Bool.and_eq_true, Bool.and_true] at hs hd
      have hk : k = 2 ∨ k = 3 := by
        have h1 := hs.1.1
        simp only [decide_eq_true_eq] at h1
        exact kids_two h1
      have hda : deepS a n = true := by simpa [sameB] using hd.1
      have hdb : deepS b (n + 1) = true := by
        have := hd.2
        simpa [sameB, hk] using this
      have h1 := size_le a n hs.2.1 hda
      have h2 := size_le b (n + 1) hs.2.2 hdb
      rw [setsS, setsL, setsL, Tr.size, sizeL, sizeL, sizeL]
      have e : 2 * (setsS a + (setsS b + 0)) * (n + 1) = 2 * setsS a * n + 2 * setsS a + 2 * setsS b * (n + 1) := by
        rw [show 2 * (setsS a + (setsS b + 0)) = 2 * setsS a + 2 * setsS b by omega, Nat.add_mul, Nat.mul_succ (2 * setsS a)]
      have h3 : 1 ≤ setsS a := by
        rcases Nat.eq_zero_or_pos (setsS a) with e | e
        · rw [e] at h1
          have : 1 ≤ a.size := by obtain ⟨_, _, _⟩ := a; rw [Tr.size]; omega
          omega
        · exact e
      omega
  | .mk k f (_ :: _ :: _ :: _), n, hs, hd => by
    exfalso
    rw [shapedS] at hs
    simp only [Bool.and_eq_true, decide_eq_true_eq] at hs
    exact kids_more hs.1.1

end Go.Proofs.Ytaneblecgjahbab.nfa

namespace Go.Proofs.Ytaneblecgjahbab.nfa
open Go.RowKit Go.Proofs.Ytaneblecgjahbab.sum Go.Proofs.Ytaneblecgjahbab.kept Go.Proofs.Ytaneblecgjahbab.pop Go.Proofs.Ytaneblecgjahbab.cls Go.Proofs.Ytaneblecgjahbab.tre Go.Proofs.Ytaneblecgjahbab.ere
set_option linter.unusedVariables false

theorem heap_set {w : World} {g : Nat} {cur : Array Value} {e : TypeId} {z : Nat × Nat} (h : w.heap[g]? = some (.cells cur e z)) (j : Nat) (x : Value) : (w.setCell ⟨g, j, none⟩ x).heap[g]? = some (.cells (cur.setIfInBounds j x) e z) := by
  unfold World.setCell
  show (w.heap.modify g _)[g]? = _
  rw [Array.getElem?_modify, if_pos rfl, h]
  rfl
theorem own_set {w : World} {base : Nat} {e : TypeId} {size : Nat} {v : Value} {n : Nat} {xs : List Value} (h : w.ownsRow base e size v n xs) {g : Nat} (hg : v.ownBlock = some g) (j : Nat) (x : Value) : (w.setCell ⟨g, j, none⟩ x).ownsRow base e size v n (xs.set j x) := by
  refine ⟨by rw [List.length_set]; exact h.1, ?_⟩
  rcases h.2 with ⟨rfl, rfl⟩ | ⟨g', cap, cur, rfl, h1, h2, h3, h4, h5, h6⟩
  · simp [Value.ownBlock] at hg
  · simp only [Value.ownBlock, Option.some.injEq] at hg
    have hg : g' = g := hg
    subst hg
    refine .inr ⟨g', cap, cur.setIfInBounds j x, rfl, h1, heap_set h2 j x, h3, h4, by simpa using h5, ?_⟩
    rw [Array.toList_setIfInBounds, List.take_set, h6]
/-- a beginning of a row -/
theorem own_take {w : World} {base : Nat} {e : TypeId} {size : Nat} {g n c : Nat} {xs : List Value} (h : w.ownsRow base e size (.slice (some ⟨g, 0, none⟩) n c) n xs) (m : Nat) (hm : m ≤ n) : w.ownsRow base e size (.slice (some ⟨g, 0, none⟩) m c) m (xs.take (m * size)) := by
  have hms : m * size ≤ n * size := Nat.mul_le_mul_right _ hm
  refine ⟨by rw [List.length_take, h.1]; omega, ?_⟩
  rcases h.2 with ⟨e1, rfl⟩ | ⟨g', cap, cur, e1, h1, h2, h3, h4, h5, h6⟩
  · cases e1
  · injection e1 with e1 e2 e3
    injection e1 with e1
    injection e1 with e1 _ _
    subst e1 e3
    refine .inr ⟨g, c, cur, rfl, h1, h2, by omega, h4, h5, ?_⟩
    rw [← h6, List.take_take, Nat.min_eq_left hms]
theorem own_lt {w : World} {base : Nat} {e : TypeId} {size : Nat} {v : Value} {n : Nat} {xs : List Value} (h : w.ownsRow base e size v n xs) {g : Nat} (hg : v.ownBlock = some g) : base ≤ g ∧ g < w.heap.size := h.lt g hg
theorem own_form {w : World} {base : Nat} {e : TypeId} {size : Nat} {v : Value} {n : Nat} {xs : List Value} (h : w.ownsRow base e size v n xs) (hn : 0 < n) : ∃ g c, v = .slice (some ⟨g, 0, none⟩) n c ∧ n ≤ c ∧ c ≤ maxLen := by
  rcases h.2 with ⟨_, rfl⟩ | ⟨g, cap, cur, rfl, h1, h2, h3, h4, h5, h6⟩
  · omega
  · exact ⟨g, cap, rfl, h3, h4⟩
theorem own_cell {w : World} {base : Nat} {e : TypeId} {size : Nat} {v : Value} {n : Nat} {xs : List Value} (h : w.ownsRow base e size v n xs) {g : Nat} (hg : v.ownBlock = some g) (j : Nat) {u : Value} (hu : xs[j]? = some u) : w.cell? ⟨g, j, none⟩ = some u := by
  have := World.ownsRow.cells h hg j u hu
  rw [addr_add, Nat.zero_add] at this
  exact this
theorem own_warm {w : World} {base : Nat} {e : TypeId} {size : Nat} {v : Value} {n : Nat} {xs : List Value} (h : w.ownsRow base e size v n xs) {g : Nat} (hg : v.ownBlock = some g) (j : Nat) : w.frozen? ⟨g, j, none⟩ = false := by
  rcases h.2 with ⟨rfl, rfl⟩ | ⟨g', cap, cur, rfl, h1, h2, h3, h4, h5, h6⟩
  · simp [Value.ownBlock] at hg
  · simp only [Value.ownBlock, Option.some.injEq] at hg
    have hg : g' = g := hg
    subst hg
    unfold World.frozen?
    rw [h2]
    simp

theorem flat_set (ps : List Part) (i n : Nat) (h : i < ps.length) : (setN ps i n).flatMap Part.cells = (ps.flatMap Part.cells).set (i * 7 + 5) (.int .i64 (n : Int)) := by
  apply List.ext_getElem?
  intro j
  by_cases hj : j < ps.length * 7
  · obtain ⟨p, r, rfl, hp, hr⟩ : ∃ p r, j = p * 7 + r ∧ p < ps.length ∧ r < 7 := ⟨j / 7, j % 7, by omega, by omega, by omega⟩
    rw [parts_get _ p r (by rw [setN_len]; exact hp) hr, List.getElem?_set, parts_get _ p r hp hr]
    unfold setN
    rw [List.getElem_modify]
    by_cases hpi : i = p
    · subst hpi
      rw [if_pos rfl]
      by_cases hr5 : 5 = r
      · subst hr5
        rw [if_pos rfl, if_pos (by rw [parts_len]; omega)]
        rfl
      · rw [if_neg (by omega)]
        match r, hr, hr5 with
        | 0, _, _ => rfl
        | 1, _, _ => rfl
        | 2, _, _ => rfl
        | 3, _, _ => rfl
        | 4, _, _ => rfl
        | 5, _, h5 => exact absurd rfl h5
        | 6, _, _ => rfl
    · rw [if_neg hpi, if_neg (by omega)]
  · rw [List.getElem?_eq_none (by rw [parts_len, setN_len]; omega), List.getElem?_eq_none (by rw [List.length_set, parts_len]; omega)]
/-- one part leads on to another one -/
theorem PgAt.setNext {w : World} {b base : Nat} {v : Value} {ps : List Part} {st : Nat} {bk : Bool} (h : PgAt w b base v ps st bk) {g : Nat} (hg : v.ownBlock = some g) (i n : Nat) (hi : i < ps.length) : PgAt (w.setCell ⟨g, i * 7 + 5, none⟩ (.int .i64 (n : Int))) b base v (setN ps i n) st bk := by
  have hgb : g ≠ b := fun e => h.out (e ▸ hg)
  have hne : ∀ o, (⟨b, o, none⟩ : Addr) ≠ ⟨g, i * 7 + 5, none⟩ := fun o e => hgb (by injection e with e _ _; exact e.symm)
  refine ⟨?_, ?_, ?_, fun j => (World.frozen?_setCell _ _ _ _).trans (h.warm j), ?_, h.out, h.le, by rw [show (w.setCell ⟨g, i * 7 + 5, none⟩ (.int .i64 (n : Int))).heap.size = w.heap.size by simp [World.setCell]]; exact h.lt⟩
  · rw [World.cell?_setCell_other _ _ _ _ (fun e => hne _ e.symm)]; exact h.c0
  · rw [World.cell?_setCell_other _ _ _ _ (fun e => hne _ e.symm)]; exact h.c1
  · rw [World.cell?_setCell_other _ _ _ _ (fun e => hne _ e.symm)]; exact h.c2
  · have := own_set h.row hg (i * 7 + 5) (.int .i64 (n : Int))
    unfold NRow
    rw [flat_set ps i n hi, setN_len]
    exact this
theorem PgAt.part {w : World} {b base : Nat} {v : Value} {ps : List Part} {st : Nat} {bk : Bool} (h : PgAt w b base v ps st bk) (i : Nat) (hi : i < ps.length) : ∃ g c, v = .slice (some ⟨g, 0, none⟩) ps.length c ∧ base ≤ g ∧ g < w.heap.size ∧ ps.length ≤ c ∧ c ≤ maxLen ∧ (∀ j, w.frozen? ⟨g, j, none⟩ = false) ∧
    w.cell? ⟨g, i * 7, none⟩ = some (.int .i64 (ps[i].kind : Int)) ∧ w.cell? ⟨g, i * 7 + 1, none⟩ = some (.int .u64 (wd ps[i].f 0 64 : Nat)) ∧ w.cell? ⟨g, i * 7 + 2, none⟩ = some (.int .u64 (wd ps[i].f 64 64 : Nat)) ∧ w.cell? ⟨g, i * 7 + 3, none⟩ = some (.int .u64 (wd ps[i].f 128 64 : Nat)) ∧ w.cell? ⟨g, i * 7 + 4, none⟩ = some (.int .u64 (wd ps[i].f 192 64 : Nat)) ∧ w.cell? ⟨g, i * 7 + 5, none⟩ = some (.int .i64 (ps[i].next : Int)) ∧ w.cell? ⟨g, i * 7 + 6, none⟩ = some (.int .i64 (ps[i].other : Int)) := by
  obtain ⟨g, c, rfl, h1, h2⟩ := own_form h.row (by omega)
  have hg : (Value.slice (some ⟨g, 0, none⟩) ps.length c).ownBlock = some g := rfl
  have hc := fun j u (hj : j < 7) (e : ps[i].cells[j]? = some u) => own_cell h.row hg (i * 7 + j) ((parts_get ps i j hi hj).trans e)
  exact ⟨g, c, rfl, (own_lt h.row hg).1, (own_lt h.row hg).2, h1, h2, own_warm h.row hg, hc 0 _ (by decide) rfl, hc 1 _ (by decide) rfl, hc 2 _ (by decide) rfl, hc 3 _ (by decide) rfl, hc 4 _ (by decide) rfl, hc 5 _ (by decide) rfl, hc 6 _ (by decide) rfl⟩

end Go.Proofs.Ytaneblecgjahbab.nfa

namespace Go.Proofs.Ytaneblecgjahbab.ere
open Go.RowKit Go.Proofs.Ytaneblecgjahbab.sum Go.Proofs.Ytaneblecgjahbab.kept Go.Proofs.Ytaneblecgjahbab.pop Go.Proofs.Ytaneblecgjahbab.cls Go.Proofs.Ytaneblecgjahbab.tre Go.Proofs.Ytaneblecgjahbab.str
set_option linter.unusedVariables false

/-- a reader at block q, at place k, with o brackets open -/
structure RdAt (w0 w : World) (q : Nat) (l : List UInt8) (k o : Nat) : Prop where
  c0 : w.cell? ⟨q, 0, none⟩ = some (.string (st l))
  c1 : w.cell? ⟨q, 1, none⟩ = some (.int .i64 (k : Int))
  c2 : w.cell? ⟨q, 2, none⟩ = some (.int .i64 (o : Int))
  warm : ∀ i, w.frozen? ⟨q, i, none⟩ = false
  ge : w0.heap.size ≤ q
  kp : Kp No w0 w
theorem RdAt.lt {w0 w : World} {q : Nat} {l : List UInt8} {k o : Nat} (h : RdAt w0 w q l k o) : q < w.heap.size := World.block_lt_of_cell? w ⟨q, 0, none⟩ h.c0
theorem RdAt.kept {S : Nat → Prop} {w0 w w' : World} {q : Nat} {l : List UInt8} {k o : Nat} (h : RdAt w0 w q l k o) (hk : Kp S w w') (hq : ¬ S q) (h0 : ∀ i, S i → i < w.heap.size → w0.heap.size ≤ i) : RdAt w0 w' q l k o :=
  ⟨hk.cell' h.c0 hq, hk.cell' h.c1 hq, hk.cell' h.c2 hq, fun i => (hk.frozen (p := ⟨q, i, none⟩) h.lt hq).trans (h.warm i), h.ge, h.kp.trans hk fun i hi e => by
    have := h0 i e (Nat.lt_of_lt_of_le hi h.kp.size)
    omega⟩
theorem RdAt.no {w0 w w' : World} {q : Nat} {l : List UInt8} {k o : Nat} (h : RdAt w0 w q l k o) (hk : Kp No w w') : RdAt w0 w' q l k o := h.kept hk id fun _ e => e.elim
theorem RdAt.at' {w0 w : World} {q : Nat} {l : List UInt8} {k o : Nat} (h : RdAt w0 w q l k o) (k' : Nat) : RdAt w0 (w.setCell ⟨q, 1, none⟩ (.int .i64 (k' : Int))) q l k' o :=
  ⟨by rw [World.cell?_setCell_other _ _ _ _ (by intro e; cases e)]; exact h.c0, World.cell?_setCell_same _ _ _ h.c1, by rw [World.cell?_setCell_other _ _ _ _ (by intro e; cases e)]; exact h.c2, fun i => by simp only [World.frozen?_setCell]; exact h.warm i, h.ge, h.kp.setCell (p := ⟨q, 1, none⟩) (fun e => by have := h.ge; simp only at e; omega) _⟩
theorem RdAt.open' {w0 w : World} {q : Nat} {l : List UInt8} {k o : Nat} (h : RdAt w0 w q l k o) (o' : Nat) : RdAt w0 (w.setCell ⟨q, 2, none⟩ (.int .i64 (o' : Int))) q l k o' :=
  ⟨by rw [World.cell?_setCell_other _ _ _ _ (by intro e; cases e)]; exact h.c0, by rw [World.cell?_setCell_other _ _ _ _ (by intro e; cases e)]; exact h.c1, World.cell?_setCell_same _ _ _ h.c2, fun i => by simp only [World.frozen?_setCell]; exact h.warm i, h.ge, h.kp.setCell (p := ⟨q, 2, none⟩) (fun e => by have := h.ge; simp only at e; omega) _⟩

theorem contains_nat (bs : List UInt8) (b : UInt8) : (bs.map UInt8.toNat).contains b.toNat = bs.contains b := by
  rw [Bool.eq_iff_iff]
  simp only [List.contains_iff_exists_mem_beq, List.mem_map, beq_iff_eq]
  constructor
  · rintro ⟨_, ⟨a, ha, rfl⟩, e⟩
    exact ⟨a, ha, UInt8.toNat_inj.1 e⟩
  · rintro ⟨a, ha, rfl⟩
    exact ⟨_, ⟨_, ha, rfl⟩, rfl⟩
theorem byte_back (b : UInt8) : ((b.toNat : Int)).toNat.toUInt8 = b := by
  simp

set_option maxRecDepth 100000 in
set_option maxHeartbeats 1000000 in
/-- does one of these bytes come next? -/
theorem sees_any {w0 w : World} {q : Nat} {l : List UInt8} {k o : Nat} (h : RdAt w0 w q l k o) (hl : l.length < 4294967281) (hk : k ≤ l.length) (p : ByteArray) (bs : List Nat) (hp : p.data.toList.map UInt8.toNat = bs) :
    Calls Try.prog 65 #[.pointer (some ⟨q, 0, none⟩), .string p] w fun e w' => e = .returned (.bool (seesB l k bs)) ∧ ∃ n, w' = w.drewN n := by
  have hsz := st_size l
  have hk0 : (0 : Int) ≤ (k : Int) := Int.natCast_nonneg _
  obtain ⟨c0, c1, c2, hw, -, -⟩ := h
  by_cases hlt : k < l.length
  · have hki : (k : Int) < (l.length : Int) := by omega
    have hg := fun h => st_get l k h
    obtain ⟨x, hx⟩ : ∃ x, l.getD k 0 = x := ⟨_, rfl⟩
    have hb : seesB l k bs = (p.data.toList.contains x) := by
      unfold seesB atB
      rw [decide_eq_true hlt, Bool.true_and, ← hp, hx, contains_nat]
    rw [hb]
    rw [hx] at hg
    have HIx := Hid_mk fun n => Calls.quiet_of_same (Try.strings_IndexByte p (x.toNat : Int) (w.drewN n))
    simp only [byte_back] at HIx
    have hdec : ∀ J, Lib.indexByte p.data.toList x = J → p.data.toList.contains x = decide (0 ≤ J) := fun J e => by rw [Lib.contains_iff_indexByte, e]
    obtain ⟨J, hJ⟩ : ∃ J, Lib.indexByte p.data.toList x = J := ⟨_, rfl⟩
    rw [hdec J hJ]
    rw [hJ] at HIx
    clear hdec hJ hb hx hp
    go_enter Try.func65, Try.ntmps65
    go_wp2
    go_quiet ((go_at_call 83; exact HIx.out _))
    go_wp2
    go_ret
    exact ⟨rfl, _, rfl⟩
  · have hki : ¬ (k : Int) < (l.length : Int) := by omega
    have hb : seesB l k bs = false := by unfold seesB; rw [decide_eq_false hlt, Bool.false_and]
    rw [hb]
    go_enter Try.func65, Try.ntmps65
    go_wp2
    go_quiet (fail)
    go_wp2
    go_ret
    exact ⟨rfl, _, rfl⟩

theorem octB_iff (l : List UInt8) (k : Nat) : octB l k = true ↔ k < l.length ∧ 48 ≤ atB l k ∧ atB l k ≤ 55 := by
  unfold octB
  simp only [Bool.and_eq_true, decide_eq_true_eq, and_assoc]
theorem digB_iff (l : List UInt8) (k : Nat) : digB l k = true ↔ k < l.length ∧ 48 ≤ atB l k ∧ atB l k ≤ 57 := by
  unfold digB
  simp only [Bool.and_eq_true, decide_eq_true_eq, and_assoc]
theorem octN_le (l : List UInt8) (k : Nat) : octN l k ≤ 3 := by unfold octN; split <;> (try split) <;> (try split) <;> omega
theorem octN_lt (l : List UInt8) (k j : Nat) (hj : j < octN l k) : octB l (k + j) = true := by
  unfold octN at hj
  split at hj
  · rename_i h0
    split at hj
    · rename_i h1
      split at hj
      · rename_i h2
        have : j = 0 ∨ j = 1 ∨ j = 2 := by omega
        rcases this with rfl | rfl | rfl <;> assumption
      · have : j = 0 ∨ j = 1 := by omega
        rcases this with rfl | rfl <;> assumption
    · have : j = 0 := by omega
      subst this
      assumption
  · omega
theorem octN_end (l : List UInt8) (k : Nat) : octN l k = 3 ∨ octB l (k + octN l k) = false := by
  unfold octN
  split
  · split
    · split
      · exact .inl rfl
      · rename_i h; exact .inr (by simpa using h)
    · rename_i h; exact .inr (by simpa using h)
  · rename_i h; exact .inr (by simpa using h)
theorem octN_room (l : List UInt8) (k : Nat) (hk : k ≤ l.length) : k + octN l k ≤ l.length := by
  by_cases h : octN l k = 0
  · omega
  · have := (octB_iff l _).1 (octN_lt l k (octN l k - 1) (by omega))
    omega
theorem digN_lt (l : List UInt8) (k j : Nat) (hj : j < digN l k) : digB l (k + j) = true := by
  unfold digN at hj
  split at hj
  · rename_i h0
    split at hj
    · rename_i h1
      have : j = 0 ∨ j = 1 := by omega
      rcases this with rfl | rfl <;> assumption
    · have : j = 0 := by omega
      subst this
      assumption
  · omega
theorem digN_end (l : List UInt8) (k : Nat) : digN l k = 2 ∨ digB l (k + digN l k) = false := by
  unfold digN
  split
  · split
    · exact .inl rfl
    · rename_i h; exact .inr (by simpa using h)
  · rename_i h; exact .inr (by simpa using h)
theorem digN_le (l : List UInt8) (k : Nat) : digN l k ≤ 2 := by unfold digN; split <;> (try split) <;> omega
theorem digN_room (l : List UInt8) (k : Nat) (hk : k ≤ l.length) : k + digN l k ≤ l.length := by
  by_cases h : digN l k = 0
  · omega
  · have := (digB_iff l _).1 (digN_lt l k (digN l k - 1) (by omega))
    omega
theorem octV_lt (l : List UInt8) (k : Nat) : ∀ j, octV l k j < 256
  | 0 => by simp [octV]
  | j + 1 => Nat.mod_lt _ (by decide)
theorem digV_le (l : List UInt8) (k : Nat) : ∀ j, j ≤ digN l k → digV l k j < 10 ^ j
  | 0, _ => by simp [digV]
  | j + 1, h => by
    have := digV_le l k j (by omega)
    have h2 := (digB_iff l _).1 (digN_lt l k j (by omega))
    rw [digV, Nat.pow_succ]
    omega

def OcRel (l : List UInt8) (k : Nat) (b e : Value) : Prop := ∃ j : Nat, j ≤ octN l k ∧ b = .int .u8 (octV l k j : Nat) ∧ e = .int .i64 ((k + j : Nat) : Int)

set_option maxRecDepth 100000 in
set_option maxHeartbeats 1000000 in
theorem octal_any (w : World) (l : List UInt8) (k : Nat) (hk : k ≤ l.length) (hl : l.length < 4294967281) :
    Calls Try.prog 111 #[.string (st l), .int .i64 (k : Int)] w fun e w' => e = .returned (.tuple #[.int .u8 (octV l k (octN l k) : Nat), .int .i64 ((k + octN l k : Nat) : Int)]) ∧ w' = w := by
  have hsz := st_size l
  have hk0 : (0 : Int) ≤ (k : Int) := Int.natCast_nonneg _
  have hw3 : IntKind.i64.wrap ((k : Int) + 3) = (k : Int) + 3 := IntWalk.i64_in _ (by omega)
  have hon := octN_le l k
  have hro := octN_room l k hk
  go_enter Try.func111, Try.ntmps111
  go_wp2
  go_loopw [4, 5] (fun b e wr => OcRel l k b e ∧ wr = w) (fun _ e _ => l.length - (intOf e).toNat)
  case atStart => exact ⟨⟨0, Nat.zero_le _, rfl, rfl⟩, rfl⟩
  case round =>
    obtain ⟨⟨j, hj, rfl, rfl⟩, rfl⟩ := hrel
    have hwi : IntKind.i64.wrap (((k + j : Nat) : Int) + 1) = ((k + (j + 1) : Nat) : Int) := by rw [IntWalk.i64_in _ (by omega)]; push_cast; omega
    have hv := octV_lt l k j
    by_cases hlt : k + j < l.length
    · have hki : ((k + j : Nat) : Int) < (l.length : Int) := by omega
      have hg := fun h => st_get l (k + j) h
      obtain ⟨x, hx⟩ : ∃ x, (l.getD (k + j) 0).toNat = x := ⟨_, rfl⟩
      have hxl := (l.getD (k + j) 0).toNat_lt
      rw [hx] at hg hxl
      by_cases h3 : j < 3
      · have h3i : ((k + j : Nat) : Int) < (k : Int) + 3 := by omega
        by_cases hlo : 48 ≤ x
        · have hloi : (48 : Int) ≤ (x : Int) := by omega
          by_cases hhi : x ≤ 55
          · have hhii : (x : Int) ≤ 55 := by omega
            have hjn : j < octN l k := by
              rcases octN_end l k with h | h
              · omega
              · refine Decidable.byContradiction fun hn => ?_
                obtain rfl : j = octN l k := by omega
                rw [(octB_iff l _).2 ⟨hlt, by unfold atB; omega, by unfold atB; omega⟩] at h
                cases h
            have hstep : octV l k (j + 1) = (octV l k j * 8 + (x - 48)) % 256 := by rw [octV, atB, hx]
            obtain ⟨V, hV⟩ : ∃ V, octV l k j = V := ⟨_, rfl⟩
            obtain ⟨V2, hV2⟩ : ∃ V, octV l k (j + 1) = V := ⟨_, rfl⟩
            rw [hV] at hstep hv
            rw [hV2] at hstep
            rw [hV]
            have HN := Hid_mk hjn
            have HV2 := Hid_mk hV2
            have HM := Hid_mk hk
            clear hjn hV hV2 hon
            have hval : IntKind.u8.wrap (IntKind.u8.wrap (IntKind.u8.wrap ((V : Int) * 8) + (x : Int)) - 48) = ((V2 : Nat) : Int) := by
              rw [hstep]
              simp only [IntKind.wrap, IntKind.bits, IntKind.signed]
              simp
              omega
            have hval2 : (((V : Int) * 8 + (x : Int)) % 256 - 48) % 256 = ((V2 : Nat) : Int) := by rw [hstep]; omega
            have HVal := Hid_mk hval2
            clear hstep hx hval2
            obtain ⟨K, hK⟩ : ∃ K, k + j = K := ⟨_, rfl⟩
            obtain ⟨K2, hK2⟩ : ∃ K, k + (j + 1) = K := ⟨_, rfl⟩
            rw [hK] at hg hlt hki h3i hwi ⊢
            rw [hK2] at hwi
            have HK2 := Hid_mk hK2
            have HK := Hid_mk hK
            clear hK hK2
            go_wp2
            go_roundw
            case rel => exact ⟨⟨j + 1, HN.out, by rw [HV2.out]; exact congrArg _ HVal.out, by rw [HK2.out]⟩, by trivial⟩
            case measure => have := HK.out; have := HK2.out; simp only [intOf]; omega
          · have hhii : ¬ (x : Int) ≤ 55 := by omega
            have hjn : j = octN l k := by
              refine Decidable.byContradiction fun hn => ?_
              have := (octB_iff l _).1 (octN_lt l k j (by omega))
              unfold atB at this
              omega
            have HJ := Hid_mk hjn
            clear hjn hon hro hwi
            obtain ⟨K, hK⟩ : ∃ K, k + j = K := ⟨_, rfl⟩
            rw [hK] at hg hlt hki h3i ⊢
            obtain ⟨V, hV⟩ : ∃ V, octV l k j = V := ⟨_, rfl⟩
            rw [hV]
            have HK := Hid_mk hK
            have HV := Hid_mk hV
            clear hK hV
            go_wp2
            go_ret2
            exact ⟨by rw [← HJ.out, HV.out, show (k : Int) + (j : Int) = (K : Int) by have := HK.out; omega]; rfl, rfl⟩
        · have hloi : ¬ (48 : Int) ≤ (x : Int) := by omega
          have hjn : j = octN l k := by
            refine Decidable.byContradiction fun hn => ?_
            have := (octB_iff l _).1 (octN_lt l k j (by omega))
            unfold atB at this
            omega
          have HJ := Hid_mk hjn
          clear hjn hon hro hwi
          obtain ⟨K, hK⟩ : ∃ K, k + j = K := ⟨_, rfl⟩
          rw [hK] at hg hlt hki h3i ⊢
          obtain ⟨V, hV⟩ : ∃ V, octV l k j = V := ⟨_, rfl⟩
          rw [hV]
          have HK := Hid_mk hK
          have HV := Hid_mk hV
          clear hK hV
          go_wp2
          go_ret2
          exact ⟨by rw [← HJ.out, HV.out, show (k : Int) + (j : Int) = (K : Int) by have := HK.out; omega]; rfl, rfl⟩
      · have h3i : ¬ ((k + j : Nat) : Int) < (k : Int) + 3 := by omega
        have hjn : j = octN l k := by omega
        have HJ := Hid_mk hjn
        clear hjn hon hro hwi
        obtain ⟨K, hK⟩ : ∃ K, k + j = K := ⟨_, rfl⟩
        rw [hK] at hg hlt hki h3i ⊢
        obtain ⟨V, hV⟩ : ∃ V, octV l k j = V := ⟨_, rfl⟩
        rw [hV]
        have HK := Hid_mk hK
        have HV := Hid_mk hV
        clear hK hV
        go_wp2
        go_ret2
        exact ⟨by rw [← HJ.out, HV.out, show (k : Int) + (j : Int) = (K : Int) by have := HK.out; omega]; rfl, rfl⟩
    · have hki : ¬ ((k + j : Nat) : Int) < (l.length : Int) := by omega
      have hjn : j = octN l k := by
        refine Decidable.byContradiction fun hn => ?_
        have := (octB_iff l _).1 (octN_lt l k j (by omega))
        omega
      have HJ := Hid_mk hjn
      clear hjn hon hro hwi
      obtain ⟨K, hK⟩ : ∃ K, k + j = K := ⟨_, rfl⟩
      rw [hK] at hlt hki ⊢
      obtain ⟨V, hV⟩ : ∃ V, octV l k j = V := ⟨_, rfl⟩
      rw [hV]
      have HK := Hid_mk hK
      have HV := Hid_mk hV
      clear hK hV
      go_wp2
      go_ret2
      exact ⟨by rw [← HJ.out, HV.out, show (k : Int) + (j : Int) = (K : Int) by have := HK.out; omega]; rfl, rfl⟩

end Go.Proofs.Ytaneblecgjahbab.ere
