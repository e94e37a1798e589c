/- Package printf: signs, cuts, one byte; strings.Cut at a %. A scope with any labels: what holds at each jump, and a measure. No program is named here. A scope of two labels, the measure a number of one's own. No program is named here. Package printf: a width's digits; the text ahead of the next conversion. -/
import Derived.Test.YtannbdbhkhmppaaGreatDoorPfWkM
import Derived.Test.YtannbdbhkhmppaaGreatDoorShelf
import Derived.Test.YtannbdbhkhmppaaGreatDoorRow0M
import Derived.ScopeJumps
import Derived.WalkMore

namespace Go.Proofs.YtannbdbhkhmppaaGreatDoor.pf
open Go.RowKit Go.Lib Go.Proofs.YtannbdbhkhmppaaGreatDoor.sum Go.Proofs.YtannbdbhkhmppaaGreatDoor.kept Go.Proofs.YtannbdbhkhmppaaGreatDoor.app Go.Proofs.YtannbdbhkhmppaaGreatDoor.writer Go.Proofs.YtannbdbhkhmppaaGreatDoor.known Go.Proofs.YtannbdbhkhmppaaGreatDoor.str
set_option linter.unusedVariables false

/-- a conversion -/
structure Cv where
  left : Bool
  plus : Bool
  blank : Bool
  noughts : Bool
  width : Int
  prec : Int
  letter : Nat
abbrev cvC (c : Cv) : Array Value := #[.bool c.left, .bool c.plus, .bool c.blank, .bool c.noughts, .int .i64 c.width, .int .i64 c.prec, .int .u8 (c.letter : Int)]
abbrev cvV (c : Cv) : Value := .agg (cvC c)
/-- a text is told, memory is let be but for what is new -/
def TxK (w : World) (s : List UInt8) (e : Ending) (w' : World) : Prop := e = .returned (.string (st s)) ∧ Kp No w w'

/-- the letters that bear no sign -/
def bare (c : Nat) : Bool := (c == 117 || c == 111 || c == 120 || c == 88)
theorem bare_index (c : Nat) (h : c < 256) : decide (0 ≤ Lib.indexByte [117, 111, 120, 88] ((c : Int).toNat.toUInt8)) = bare c := by
  have : ∀ k : Fin 256, decide (0 ≤ Lib.indexByte [117, 111, 120, 88] (((k.val : Nat) : Int).toNat.toUInt8)) = bare k.val := by decide +kernel
  exact this ⟨c, h⟩
def signS (c : Cv) (below : Bool) : List UInt8 := if below then [45] else if bare c.letter then [] else if c.plus then [43] else if c.blank then [32] else []

set_option maxRecDepth 100000 in
set_option maxHeartbeats 2000000 in
theorem sign_any (w : World) (c : Cv) (below : Bool) (hl : c.letter < 256) :
    Calls Tryz.prog 26 #[cvV c, .bool below] w (TxK w (signS c below)) := by
  have hb := bare_index c.letter hl
  obtain ⟨l, p, b, n, wd, pr, t⟩ := c
  simp only at hb hl
  have HI := Hid_mk fun W => Tryz.strings_IndexByte ⟨#[117, 111, 120, 88]⟩ (t : Int) W
  obtain ⟨J, hJ⟩ : ∃ J, Lib.indexByte [117, 111, 120, 88] ((t : Int).toNat.toUInt8) = J := ⟨_, rfl⟩
  rw [hJ] at hb
  simp only [hJ] at HI
  have HB := Hid_mk hb
  unfold signS
  simp only [cvV, cvC]
  clear hJ hb
  cases below with
  | true =>
    go_enter Tryz.func26, Tryz.ntmps26
    go_wp2
    go_ret
    exact ⟨rfl, (Kp.refl No w).alloc _⟩
  | false =>
    by_cases h0 : 0 ≤ J
    · rw [decide_eq_true h0] at HB
      rw [← HB.out]
      go_enter Tryz.func26, Tryz.ntmps26
      go_wp2_with (go_at_call 21; (with_reducible refine (HI.out _).mono ?_); rintro e w1 ⟨rfl, rfl⟩)
      go_ret
      exact ⟨rfl, (Kp.refl No w).alloc _⟩
    · rw [decide_eq_false h0] at HB
      rw [← HB.out]
      cases p <;> cases b
      all_goals
        (go_enter Tryz.func26, Tryz.ntmps26
         go_wp2_with (go_at_call 21; (with_reducible refine (HI.out _).mono ?_); rintro e w1 ⟨rfl, rfl⟩)
         go_ret
         exact ⟨rfl, (Kp.refl No w).alloc _⟩)

/-- of a text so much as the precision says -/
def cutP (p : Int) (s : List UInt8) : List UInt8 := if p = -1 then s else s.take (min (s.length : Int) p).toNat
set_option maxRecDepth 100000 in
set_option maxHeartbeats 2000000 in
theorem cut_any (w : World) (c : Cv) (s : List UInt8) (hs : s.length ≤ 140737488355327) (hp : -1 ≤ c.prec) (hp2 : c.prec ≤ 1000) :
    Calls Tryz.prog 24 #[cvV c, .string (st s)] w (TxK w (cutP c.prec s)) := by
  obtain ⟨l, p, b, n, wd, pr, t⟩ := c
  simp only at hp hp2
  have hsz := st_size s
  unfold cutP
  simp only [cvV, cvC]
  obtain ⟨S, hS⟩ : ∃ S, st s = S := ⟨_, rfl⟩
  rw [hS] at hsz
  rw [hS]
  by_cases h : pr = -1
  · subst h
    rw [if_pos rfl]
    unfold TxK
    rw [hS]
    go_enter Tryz.func24, Tryz.ntmps24
    go_wp2
    go_ret
    exact ⟨rfl, (Kp.refl No w).alloc _⟩
  · rw [if_neg h]
    have hne : (pr == -1) = false := by simpa using h
    obtain ⟨M, hM⟩ : ∃ M : Nat, min (s.length : Int) pr = (M : Int) := ⟨(min (s.length : Int) pr).toNat, by omega⟩
    have hx := st_piece s 0 M
    rw [Nat.sub_zero, List.drop_zero, hS] at hx
    rw [hM, Int.toNat_natCast]
    unfold TxK
    rw [← hx]
    have hMi : min (S.size : Int) pr = (M : Int) := by omega
    have hM0 : (0 : Int) ≤ (M : Int) := Int.natCast_nonneg _
    have hMs : (M : Int) ≤ (S.size : Int) := by omega
    clear hx hS hM hsz
    go_enter Tryz.func24, Tryz.ntmps24
    go_wp2
    go_ret
    exact ⟨rfl, (Kp.refl No w).alloc _⟩

/-- what stands ahead of a %, what behind it -/
def cutS (l : List UInt8) : List UInt8 × List UInt8 × Bool := if 0 ≤ Lib.indexByte l 37 then (l.take (Lib.indexByte l 37).toNat, l.drop ((Lib.indexByte l 37).toNat + 1), true) else (l, [], false)
theorem index_le (l : List UInt8) (c : UInt8) : Lib.indexByte l c < (l.length : Int) ∨ l = [] := by
  induction l with
  | nil => exact .inr rfl
  | cons b l ih =>
    left
    rw [Lib.indexByte]
    split
    · simp only [List.length_cons]; omega
    · split
      · simp only [List.length_cons]; omega
      · rename_i h1 h2
        rcases ih with h | h
        · simp only [List.length_cons]; omega
        · subst h; exact absurd rfl h2
def CuPost (w : World) (l : List UInt8) (e : Ending) (w' : World) : Prop := e = .returned (.tuple #[.string (st (cutS l).1), .string (st (cutS l).2.1), .bool (cutS l).2.2]) ∧ ∃ n, w' = w.drewN n

set_option maxRecDepth 100000 in
set_option maxHeartbeats 2000000 in
theorem scut_any (w : World) (l : List UInt8) (hl : l.length ≤ 140737488355327) :
    Calls Tryz.prog 35 #[.string (st l), .string ⟨#[37]⟩] w (CuPost w l) := by
  have HI := Hid_mk fun W => Tryz.stringslite_Index_one (st l) 37 W
  simp only [st_data] at HI
  unfold CuPost cutS
  obtain ⟨J, hJ⟩ : ∃ J, Lib.indexByte l 37 = J := ⟨_, rfl⟩
  simp only [hJ] at HI ⊢
  have hlt := index_le l 37
  rw [hJ] at hlt
  have hsz := st_size l
  by_cases h0 : 0 ≤ J
  · have hlt : J < (l.length : Int) := by
      rcases hlt with h | h
      · exact h
      · subst h; rw [← hJ] at h0; simp [Lib.indexByte] at h0
    rw [if_pos h0]
    obtain ⟨k, rfl⟩ : ∃ k : Nat, J = (k : Int) := ⟨J.toNat, by omega⟩
    have hx1 := st_piece l 0 k
    rw [Nat.sub_zero, List.drop_zero] at hx1
    have hx2 := st_from l (k + 1)
    rw [← hsz] at hx2
    simp only [Int.toNat_natCast]
    rw [← hx1, ← hx2]
    obtain ⟨S, hS⟩ : ∃ S, st l = S := ⟨_, rfl⟩
    rw [hS] at hsz HI
    simp only [hS] at HI ⊢
    have hk : (k : Int) + 1 ≤ (S.size : Int) := by omega
    have hk0 : (0 : Int) ≤ (k : Int) := Int.natCast_nonneg _
    have hk2 : (k : Int) ≤ (S.size : Int) := by omega
    have hk3 : (S.size : Int) ≤ 140737488355327 := by omega
    have hk4 : (k : Int) ≤ 140737488355327 := by omega
    clear hx1 hx2 hlt hJ hS hsz
    go_enter Tryz.func35, Tryz.ntmps35
    go_wp2_with (go_at_call 54; (with_reducible refine (HI.out _).mono ?_); rintro e w1 ⟨rfl, rfl⟩)
    go_region
    go_wp2
    go_ret3
    exact ⟨rfl, 1, rfl⟩
  · rw [if_neg h0]
    have hJ0 : ¬ (0 : Int) ≤ J := h0
    clear hlt hJ
    go_enter Tryz.func35, Tryz.ntmps35
    go_wp2_with (go_at_call 54; (with_reducible refine (HI.out _).mono ?_); rintro e w1 ⟨rfl, rfl⟩)
    go_ret3
    exact ⟨rfl, 0, rfl⟩

set_option maxRecDepth 100000 in
theorem cutp_any (w : World) (l : List UInt8) (hl : l.length ≤ 140737488355327) :
    Calls Tryz.prog 16 #[.string (st l), .string ⟨#[37]⟩] w (CuPost w l) := by
  have HI := Hid_mk fun W => scut_any W l hl
  unfold CuPost at HI ⊢
  obtain ⟨⟨x, y, z⟩, hx⟩ : ∃ x, cutS l = x := ⟨_, rfl⟩
  simp only [hx] at HI ⊢
  go_enter Tryz.func16, Tryz.ntmps16
  go_wp2_with (go_at_call 35; (with_reducible refine (HI.out _).mono ?_); rintro e w1 ⟨rfl, n, rfl⟩)
  go_ret3
  exact ⟨rfl, n, rfl⟩

end Go.Proofs.YtannbdbhkhmppaaGreatDoor.pf

namespace Go.Proofs.YtannbdbhkhmppaaGreatDoor.spl
open Go.RowKit
set_option linter.unusedVariables false

/-- As Q; by a goto to a label: what holds there. -/
def jumpF (J : Nat → Act → World → Prop) (Q : Exit → Act → World → Prop) : Exit → Act → World → Prop
  | .goto l, a, w => J l a w
  | e, a, w => Q e a w

theorem wp_scope_many {P : Program} {a : Act} {w : World} {Q : Exit → Act → World → Prop} {c : Code} (J : Nat → Act → World → Prop) (μ : Nat → Act → World → Nat) (rest : Nat → Code) (hf : ∀ l a w, J l a w → findLabel c l = some (rest l))
    (pass : ∀ l a w, J l a w → (rest l).wp P (jumpF (fun l' a' w' => J l' a' w' ∧ μ l' a' w' < μ l a w) Q) a w)
    (first : c.wp P (jumpF J Q) a w) : (Code.scope c).wp P Q a w := by
  intro b k cs
  have hg : ∀ l a w, J l a w → gotoIn l (.inScope c :: k) = some (.code (rest l) :: .inScope c :: k) := fun l a w h => by simp [gotoIn, hf l a w h]
  have key : ∀ n l a w, μ l a w = n → J l a w → ∃ e a' w', Q e a' w' ∧ Arrives P (lone (b.at a (.code (rest l) :: .inScope c :: k)) cs w) b k cs e a' w' := by
    intro n
    induction n using Nat.strongRecOn with
    | _ n ih =>
      intro l a w hn hJ
      obtain ⟨e, a₁, w₁, hq, harr⟩ := pass l a w hJ b (.inScope c :: k) cs
      cases e with
      | normal => exact ⟨.normal, a₁, w₁, hq, Steps.trans harr (.one step_inScope)⟩
      | exit id => exact ⟨.exit id, a₁, w₁, hq, fun k' hk => harr k' (by simp [exitTo, hk])⟩
      | goto l' =>
        obtain ⟨hJ', hlt⟩ := hq
        obtain ⟨e₂, a₂, w₂, hq₂, harr₂⟩ := ih _ (by omega) l' a₁ w₁ rfl hJ'
        exact ⟨e₂, a₂, w₂, hq₂, .of_steps (harr _ (hg l' a₁ w₁ hJ')) harr₂⟩
      | ret => exact ⟨_, a₁, w₁, hq, harr⟩
      | panic ch => exact ⟨_, a₁, w₁, hq, harr⟩
      | outgrown => exact ⟨_, a₁, w₁, hq, harr⟩
  obtain ⟨e, a₁, w₁, hq, harr⟩ := first b (.inScope c :: k) cs
  cases e with
  | normal => exact ⟨.normal, a₁, w₁, hq, .head step_scope (Steps.trans harr (.one step_inScope))⟩
  | exit id => exact ⟨.exit id, a₁, w₁, hq, fun k' hk => .head step_scope (harr k' (by simp [exitTo, hk]))⟩
  | goto l =>
    obtain ⟨e₂, a₂, w₂, hq₂, harr₂⟩ := key _ l a₁ w₁ rfl hq
    exact ⟨e₂, a₂, w₂, hq₂, .of_steps (.head step_scope (harr _ (hg l a₁ w₁ hq))) harr₂⟩
  | ret => exact ⟨_, a₁, w₁, hq, .of_steps (.one step_scope) harr⟩
  | panic ch => exact ⟨_, a₁, w₁, hq, .of_steps (.one step_scope) harr⟩
  | outgrown => exact ⟨_, a₁, w₁, hq, .of_steps (.one step_scope) harr⟩

/-- Two labels, of which the one (A) stands ahead of the other (B): the code behind B is walked first; behind A, where one comes to B, it serves again. -/
theorem scope_two {P : Program} {a : Act} {w : World} {Q : Exit → Act → World → Prop} {c X Y : Code} (A B : Nat) (hne : A ≠ B) (J K : Act → World → Prop) (μ ν : Act → World → Nat) (hA : findLabel c A = some (.seq .skip X)) (hB : findLabel c B = some (.seq .skip Y))
    (passB : ∀ a w, K a w → Y.wp P (jumpF (fun l a' w' => l = A ∧ J a' w' ∧ μ a' w' < ν a w ∨ l = B ∧ K a' w' ∧ ν a' w' < ν a w) Q) a w)
    (passA : ∀ a w, J a w → (∀ a1 w1, K a1 w1 → ν a1 w1 ≤ μ a w → Y.wp P (jumpF (fun l a' w' => l = A ∧ J a' w' ∧ μ a' w' < μ a w ∨ l = B ∧ K a' w' ∧ ν a' w' < μ a w) Q) a1 w1) →
      X.wp P (jumpF (fun l a' w' => l = A ∧ J a' w' ∧ μ a' w' < μ a w ∨ l = B ∧ K a' w' ∧ ν a' w' < μ a w) Q) a w)
    (first : (∀ a w, J a w → X.wp P (jumpF (fun l a' w' => l = A ∧ J a' w' ∨ l = B ∧ K a' w') Q) a w) → c.wp P (jumpF (fun l a' w' => l = A ∧ J a' w' ∨ l = B ∧ K a' w') Q) a w) : (Code.scope c).wp P Q a w := by
  have pA : ∀ a w, J a w → X.wp P (jumpF (fun l a' w' => l = A ∧ J a' w' ∧ μ a' w' < μ a w ∨ l = B ∧ K a' w' ∧ ν a' w' < μ a w) Q) a w := fun a w hJ =>
    passA a w hJ fun a1 w1 hK hle => Code.wp_mono (fun e a' w' h => by
      cases e <;> first
        | exact h
        | (rcases h with ⟨h1, h2, h3⟩ | ⟨h1, h2, h3⟩
           · exact .inl ⟨h1, h2, Nat.lt_of_lt_of_le h3 hle⟩
           · exact .inr ⟨h1, h2, Nat.lt_of_lt_of_le h3 hle⟩)) (passB a1 w1 hK)
  refine wp_scope_many (fun l a w => l = A ∧ J a w ∨ l = B ∧ K a w) (fun l a w => if l = A then μ a w else ν a w) (fun l => if l = A then .seq .skip X else .seq .skip Y) (fun l a w h => ?_) (fun l a w h => ?_) (first fun a w hJ => Code.wp_mono (fun e a' w' h => by
      cases e <;> first
        | exact h
        | (rcases h with ⟨h1, h2, h3⟩ | ⟨h1, h2, h3⟩
           · exact .inl ⟨h1, h2⟩
           · exact .inr ⟨h1, h2⟩)) (pA a w hJ))
  · rcases h with ⟨rfl, -⟩ | ⟨rfl, -⟩
    · simp only [if_pos rfl]; exact hA
    · simp only [if_neg (Ne.symm hne)]; exact hB
  · rcases h with ⟨rfl, hJ⟩ | ⟨rfl, hK⟩
    · simp only [if_pos rfl]
      refine wp_seq (wp_skip (Code.wp_mono (fun e a' w' h => ?_) (pA a w hJ)))
      cases e <;> first
        | exact h
        | (rcases h with ⟨h1, h2, h3⟩ | ⟨h1, h2, h3⟩
           · exact ⟨.inl ⟨h1, h2⟩, by rw [if_pos h1]; exact h3⟩
           · exact ⟨.inr ⟨h1, h2⟩, by rw [if_neg (fun e => hne (e.symm.trans h1))]; exact h3⟩)
    · simp only [if_neg (Ne.symm hne)]
      refine wp_seq (wp_skip (Code.wp_mono (fun e a' w' h => ?_) (passB a w hK)))
      cases e <;> first
        | exact h
        | (rcases h with ⟨h1, h2, h3⟩ | ⟨h1, h2, h3⟩
           · exact ⟨.inl ⟨h1, h2⟩, by rw [if_pos h1]; exact h3⟩
           · exact ⟨.inr ⟨h1, h2⟩, by rw [if_neg (fun e => hne (e.symm.trans h1))]; exact h3⟩)

end Go.Proofs.YtannbdbhkhmppaaGreatDoor.spl

namespace Go.Proofs.YtannbdbhkhmppaaGreatDoor.spl
open Go.RowKit
set_option linter.unusedVariables false

theorem least_ex {G : Nat → Prop} (h : ∃ n, G n) : ∃ n, G n ∧ ∀ m, G m → n ≤ m := by
  obtain ⟨n, hn⟩ := h
  induction n using Nat.strongRecOn with
  | ind n ih =>
    by_cases hm : ∃ m, m < n ∧ G m
    · obtain ⟨m, h1, h2⟩ := hm
      exact ih m h1 h2
    · refine ⟨n, hn, fun m h => ?_⟩
      rcases Nat.lt_or_ge m n with h1 | h1
      · exact absurd ⟨m, h1, h⟩ hm
      · exact h1
theorem leastN_ok {G : Nat → Prop} (h : ∃ n, G n) : G (@Classical.epsilon Nat ⟨0⟩ fun n => G n ∧ ∀ m, G m → n ≤ m) := (Classical.epsilon_spec (least_ex h)).1
theorem leastN_le {G : Nat → Prop} {n : Nat} (h : G n) : (@Classical.epsilon Nat ⟨0⟩ fun n => G n ∧ ∀ m, G m → n ≤ m) ≤ n := (Classical.epsilon_spec (least_ex ⟨n, h⟩)).2 n h
/-- at either label, so far to go -/
def atAB (A B : Nat) (J K : Nat → Act → World → Prop) (l : Nat) (a : Act) (w : World) (n : Nat) : Prop := l = A ∧ J n a w ∨ l = B ∧ K n a w

theorem scope_two_g {P : Program} {a : Act} {w : World} {Q : Exit → Act → World → Prop} {c X Y : Code} (A B : Nat) (hne : A ≠ B) (J K : Nat → Act → World → Prop) (hA : findLabel c A = some (.seq .skip X)) (hB : findLabel c B = some (.seq .skip Y))
    (passB : ∀ n a w, K n a w → Y.wp P (jumpF (fun l a' w' => ∃ m, m < n ∧ atAB A B J K l a' w' m) Q) a w)
    (passA : ∀ n a w, J n a w → (∀ m a1 w1, m < n → K m a1 w1 → Y.wp P (jumpF (fun l a' w' => ∃ m, m < n ∧ atAB A B J K l a' w' m) Q) a1 w1) →
      X.wp P (jumpF (fun l a' w' => ∃ m, m < n ∧ atAB A B J K l a' w' m) Q) a w)
    (first : (∀ n a w, J n a w → X.wp P (jumpF (fun l a' w' => ∃ m, atAB A B J K l a' w' m) Q) a w) → c.wp P (jumpF (fun l a' w' => ∃ m, atAB A B J K l a' w' m) Q) a w) : (Code.scope c).wp P Q a w := by
  have lift : ∀ {n m : Nat} {C : Code} {a : Act} {w : World}, n ≤ m → C.wp P (jumpF (fun l a' w' => ∃ k, k < n ∧ atAB A B J K l a' w' k) Q) a w → C.wp P (jumpF (fun l a' w' => ∃ k, k < m ∧ atAB A B J K l a' w' k) Q) a w := fun hnm h =>
    Code.wp_mono (fun e a' w' h => by
      cases e <;> first
        | exact h
        | (obtain ⟨k, h1, h2⟩ := h
           exact ⟨k, by omega, h2⟩)) h
  have pA : ∀ n a w, J n a w → X.wp P (jumpF (fun l a' w' => ∃ m, m < n ∧ atAB A B J K l a' w' m) Q) a w := fun n a w hJ =>
    passA n a w hJ fun m a1 w1 hm hK => lift (Nat.le_of_lt hm) (passB m a1 w1 hK)
  have drop : ∀ {n : Nat} {C : Code} {a : Act} {w : World}, C.wp P (jumpF (fun l a' w' => ∃ k, k < n ∧ atAB A B J K l a' w' k) Q) a w → C.wp P (jumpF (fun l a' w' => ∃ k, atAB A B J K l a' w' k) Q) a w := fun h =>
    Code.wp_mono (fun e a' w' h => by
      cases e <;> first
        | exact h
        | (obtain ⟨k, h1, h2⟩ := h
           exact ⟨k, h2⟩)) h
  refine wp_scope_many (fun l a w => ∃ m, atAB A B J K l a w m) (fun l a w => (@Classical.epsilon Nat ⟨0⟩ fun n => atAB A B J K l a w n ∧ ∀ m, atAB A B J K l a w m → n ≤ m)) (fun l => if l = A then .seq .skip X else .seq .skip Y) (fun l a w h => ?_) (fun l a w h => ?_) (first fun n a w hJ => drop (pA n a w hJ))
  · obtain ⟨m, h⟩ := h
    rcases h with ⟨rfl, -⟩ | ⟨rfl, -⟩
    · simp only [if_pos rfl]; exact hA
    · simp only [if_neg (Ne.symm hne)]; exact hB
  · have hn := leastN_ok h
    obtain ⟨N, hN⟩ : ∃ N, (@Classical.epsilon Nat ⟨0⟩ fun n => atAB A B J K l a w n ∧ ∀ m, atAB A B J K l a w m → n ≤ m) = N := ⟨_, rfl⟩
    rw [hN] at hn
    simp only [hN]
    rcases hn with ⟨rfl, hJ⟩ | ⟨rfl, hK⟩
    · simp only [if_pos rfl]
      refine wp_seq (wp_skip (Code.wp_mono (fun e a' w' h => ?_) (pA N a w hJ)))
      cases e <;> first
        | exact h
        | (obtain ⟨m, h1, h2⟩ := h
           exact ⟨⟨m, h2⟩, Nat.lt_of_le_of_lt (leastN_le h2) h1⟩)
    · simp only [if_neg (Ne.symm hne)]
      refine wp_seq (wp_skip (Code.wp_mono (fun e a' w' h => ?_) (passB N a w hK)))
      cases e <;> first
        | exact h
        | (obtain ⟨m, h1, h2⟩ := h
           exact ⟨⟨m, h2⟩, Nat.lt_of_le_of_lt (leastN_le h2) h1⟩)

/-- One label, the measure a number of one's own. -/
theorem scope_one_g {P : Program} {a : Act} {w : World} {Q : Exit → Act → World → Prop} {c X : Code} (A : Nat) (J : Nat → Act → World → Prop) (hA : findLabel c A = some (.seq .skip X))
    (pass : ∀ n a w, J n a w → X.wp P (jumpF (fun l a' w' => l = A ∧ ∃ m, m < n ∧ J m a' w') Q) a w)
    (first : (∀ n a w, J n a w → X.wp P (jumpF (fun l a' w' => l = A ∧ ∃ m, J m a' w') Q) a w) → c.wp P (jumpF (fun l a' w' => l = A ∧ ∃ m, J m a' w') Q) a w) : (Code.scope c).wp P Q a w := by
  have drop : ∀ {n : Nat} {C : Code} {a : Act} {w : World}, C.wp P (jumpF (fun l a' w' => l = A ∧ ∃ m, m < n ∧ J m a' w') Q) a w → C.wp P (jumpF (fun l a' w' => l = A ∧ ∃ m, J m a' w') Q) a w := fun h =>
    Code.wp_mono (fun e a' w' h => by
      cases e <;> first
        | exact h
        | (obtain ⟨h0, k, h1, h2⟩ := h
           exact ⟨h0, k, h2⟩)) h
  refine wp_scope_many (fun l a w => l = A ∧ ∃ m, J m a w) (fun l a w => @Classical.epsilon Nat ⟨0⟩ fun n => J n a w ∧ ∀ m, J m a w → n ≤ m) (fun l => .seq .skip X) (fun l a w h => ?_) (fun l a w h => ?_) (first fun n a w hJ => drop (pass n a w hJ))
  · obtain ⟨rfl, -⟩ := h
    exact hA
  · obtain ⟨rfl, h⟩ := h
    have hn := leastN_ok (G := fun n => J n a w) h
    obtain ⟨N, hN⟩ : ∃ N, (@Classical.epsilon Nat ⟨0⟩ fun n => J n a w ∧ ∀ m, J m a w → n ≤ m) = N := ⟨_, rfl⟩
    simp only [hN] at hn ⊢
    refine wp_seq (wp_skip (Code.wp_mono (fun e a' w' h => ?_) (pass N a w hn)))
    cases e <;> first
      | exact h
      | (obtain ⟨h0, m, h1, h2⟩ := h
         exact ⟨⟨h0, m, h2⟩, Nat.lt_of_le_of_lt (leastN_le (G := fun n => J n a' w') h2) h1⟩)

/-- at one of three labels, so far to go -/
def at3 (A B C : Nat) (J K L : Nat → Act → World → Prop) (l : Nat) (a : Act) (w : World) (n : Nat) : Prop := l = A ∧ J n a w ∨ l = B ∧ K n a w ∨ l = C ∧ L n a w
/-- Three labels, one behind the other: what stands behind the third one is met again behind the second one. -/
theorem scope_three_g {P : Program} {a : Act} {w : World} {Q : Exit → Act → World → Prop} {c X Y Z : Code} (A B C : Nat) (hAB : A ≠ B) (hAC : A ≠ C) (hBC : B ≠ C) (J K L : Nat → Act → World → Prop) (hA : findLabel c A = some (.seq .skip X)) (hB : findLabel c B = some (.seq .skip Y)) (hC : findLabel c C = some (.seq .skip Z))
    (passC : ∀ n a w, L n a w → Z.wp P (jumpF (fun l a' w' => ∃ m, m < n ∧ at3 A B C J K L l a' w' m) Q) a w)
    (passB : ∀ n a w, K n a w → (∀ m a1 w1, m < n → L m a1 w1 → Z.wp P (jumpF (fun l a' w' => ∃ m, m < n ∧ at3 A B C J K L l a' w' m) Q) a1 w1) → Y.wp P (jumpF (fun l a' w' => ∃ m, m < n ∧ at3 A B C J K L l a' w' m) Q) a w)
    (passA : ∀ n a w, J n a w → X.wp P (jumpF (fun l a' w' => ∃ m, m < n ∧ at3 A B C J K L l a' w' m) Q) a w)
    (first : (∀ n a w, J n a w → X.wp P (jumpF (fun l a' w' => ∃ m, at3 A B C J K L l a' w' m) Q) a w) → c.wp P (jumpF (fun l a' w' => ∃ m, at3 A B C J K L l a' w' m) Q) a w) : (Code.scope c).wp P Q a w := by
  have lift : ∀ {n m : Nat} {D : Code} {a : Act} {w : World}, n ≤ m → D.wp P (jumpF (fun l a' w' => ∃ k, k < n ∧ at3 A B C J K L l a' w' k) Q) a w → D.wp P (jumpF (fun l a' w' => ∃ k, k < m ∧ at3 A B C J K L l a' w' k) Q) a w := fun hnm h =>
    Code.wp_mono (fun e a' w' h => by
      cases e <;> first
        | exact h
        | (obtain ⟨k, h1, h2⟩ := h
           exact ⟨k, by omega, h2⟩)) h
  have drop : ∀ {n : Nat} {D : Code} {a : Act} {w : World}, D.wp P (jumpF (fun l a' w' => ∃ k, k < n ∧ at3 A B C J K L l a' w' k) Q) a w → D.wp P (jumpF (fun l a' w' => ∃ k, at3 A B C J K L l a' w' k) Q) a w := fun h =>
    Code.wp_mono (fun e a' w' h => by
      cases e <;> first
        | exact h
        | (obtain ⟨k, h1, h2⟩ := h
           exact ⟨k, h2⟩)) h
  have pB : ∀ n a w, K n a w → Y.wp P (jumpF (fun l a' w' => ∃ m, m < n ∧ at3 A B C J K L l a' w' m) Q) a w := fun n a w hK =>
    passB n a w hK fun m a1 w1 hm hL => lift (Nat.le_of_lt hm) (passC m a1 w1 hL)
  refine wp_scope_many (fun l a w => ∃ m, at3 A B C J K L l a w m) (fun l a w => (@Classical.epsilon Nat ⟨0⟩ fun n => at3 A B C J K L l a w n ∧ ∀ m, at3 A B C J K L l a w m → n ≤ m)) (fun l => if l = A then .seq .skip X else if l = B then .seq .skip Y else .seq .skip Z) (fun l a w h => ?_) (fun l a w h => ?_) (first fun n a w hJ => drop (passA n a w hJ))
  · obtain ⟨m, h⟩ := h
    rcases h with ⟨rfl, -⟩ | ⟨rfl, -⟩ | ⟨rfl, -⟩
    · simp only [if_pos rfl]; exact hA
    · simp only [if_neg (Ne.symm hAB), if_pos rfl]; exact hB
    · simp only [if_neg (Ne.symm hAC), if_neg (Ne.symm hBC)]; exact hC
  · have hn := leastN_ok h
    obtain ⟨N, hN⟩ : ∃ N, (@Classical.epsilon Nat ⟨0⟩ fun n => at3 A B C J K L l a w n ∧ ∀ m, at3 A B C J K L l a w m → n ≤ m) = N := ⟨_, rfl⟩
    rw [hN] at hn
    simp only [hN]
    have fin : ∀ {D : Code}, D.wp P (jumpF (fun l a' w' => ∃ m, m < N ∧ at3 A B C J K L l a' w' m) Q) a w → (Code.seq .skip D).wp P (jumpF (fun l' a' w' => (∃ m, at3 A B C J K L l' a' w' m) ∧ (@Classical.epsilon Nat ⟨0⟩ fun n => at3 A B C J K L l' a' w' n ∧ ∀ m, at3 A B C J K L l' a' w' m → n ≤ m) < N) Q) a w := fun hD =>
      wp_seq (wp_skip (Code.wp_mono (fun e a' w' h => by
        cases e <;> first
          | exact h
          | (obtain ⟨m, h1, h2⟩ := h
             exact ⟨⟨m, h2⟩, Nat.lt_of_le_of_lt (leastN_le h2) h1⟩)) hD))
    rcases hn with ⟨rfl, hJ⟩ | ⟨rfl, hK⟩ | ⟨rfl, hL⟩
    · simp only [if_pos rfl]
      exact fin (passA N a w hJ)
    · simp only [if_neg (Ne.symm hAB), if_pos rfl]
      exact fin (pB N a w hK)
    · simp only [if_neg (Ne.symm hAC), if_neg (Ne.symm hBC)]
      exact fin (passC N a w hL)

end Go.Proofs.YtannbdbhkhmppaaGreatDoor.spl

namespace Go.Proofs.YtannbdbhkhmppaaGreatDoor.pf
open Go.RowKit Go.Lib Go.Proofs.YtannbdbhkhmppaaGreatDoor.sum Go.Proofs.YtannbdbhkhmppaaGreatDoor.kept Go.Proofs.YtannbdbhkhmppaaGreatDoor.app Go.Proofs.YtannbdbhkhmppaaGreatDoor.writer Go.Proofs.YtannbdbhkhmppaaGreatDoor.known Go.Proofs.YtannbdbhkhmppaaGreatDoor.str Go.Proofs.YtannbdbhkhmppaaGreatDoor.spl
set_option linter.unusedVariables false

/-- digits, up to what is too great -/
def cntS : List UInt8 → Nat → Nat × List UInt8
  | [], n => (n, [])
  | b :: l, n => if 48 ≤ b.toNat ∧ b.toNat ≤ 57 then cntS l (min (10 * n + (b.toNat - 48)) 201) else (n, b :: l)
theorem cnt_le : ∀ (l : List UInt8) (n : Nat), n ≤ 201 → (cntS l n).1 ≤ 201
  | [], n, h => h
  | b :: l, n, h => by
    rw [cntS]
    split
    · exact cnt_le l _ (Nat.min_le_right _ _)
    · exact h
theorem cnt_len : ∀ (l : List UInt8) (n : Nat), (cntS l n).2.length ≤ l.length
  | [], n => Nat.le_refl _
  | b :: l, n => by
    rw [cntS]
    split
    · exact Nat.le_trans (cnt_len l _) (Nat.le_succ _)
    · exact Nat.le_refl _
def CnPost (w0 w : World) (q : Nat) (A o : Value) (bs : List UInt8) (R : Nat × List UInt8) (e : Ending) (w' : World) : Prop := e = .returned (.int .i64 (R.1 : Int)) ∧ WkAt w0 w' q R.2 A o bs ∧ Kp (fun k => k = q) w w'
def CnJ (w0 w : World) (q : Nat) (A o : Value) (bs : List UInt8) (R : Nat × List UInt8) (f : Nat) (a : Act) (wr : World) : Prop :=
  ∃ U4 U5 U6 U7 U8 U9 U10 U11 U12 U13 U14 U15 U16 U17 U18 U19 U20 U21 U22 U23 U24 U25 U26 U27 U28 U29 U30 U31 n l, a = { tmps := #[.pointer (some ⟨q, 0, none⟩), undef, .int .i64 0, .int .i64 ((n : Nat) : Int), U4, U5, U6, U7, U8, U9, U10, U11, U12, U13, U14, U15, U16, U17, U18, U19, U20, U21, U22, U23, U24, U25, U26, U27, U28, U29, U30, U31], defers := [] } ∧ WkAt w0 wr q l A o bs ∧ n ≤ 201 ∧ cntS l n = R ∧ l.length + 1 ≤ f ∧ Kp (fun k => k = q) w wr

set_option maxRecDepth 100000 in
set_option maxHeartbeats 4000000 in
theorem count_any {w0 w : World} {q : Nat} {l : List UInt8} {A o : Value} {bs : List UInt8} (h : WkAt w0 w q l A o bs) (hs : lookS l ≠ 42) :
    Calls Tryz.prog 20 #[.pointer (some ⟨q, 0, none⟩)] w (CnPost w0 w q A o bs (cntS l 0)) := by
  obtain ⟨R, hR⟩ : ∃ R, cntS l 0 = R := ⟨_, rfl⟩
  rw [hR]
  have HR := Hid_mk hR
  have H := Hid_mk h
  have HL := Hid_mk (look_any h)
  have HS := Hid_mk hs
  clear h hs hR
  go_enter Tryz.func20, Tryz.ntmps20
  go_wp2_with fail
  refine scope_one_g 0 (CnJ w0 w q A o bs R) rfl ?pass ?first
  case pass =>
    rintro f a' wr ⟨U4, U5, U6, U7, U8, U9, U10, U11, U12, U13, U14, U15, U16, U17, U18, U19, U20, U21, U22, U23, U24, U25, U26, U27, U28, U29, U30, U31, n, l', rfl, hw, hn, hrun, hf, hkq⟩
    have HKq := Hid_mk hkq
    clear hkq
    obtain ⟨f, rfl⟩ : ∃ g, f = g + 1 := ⟨f - 1, by omega⟩
    have HL2 := Hid_mk (look_any hw)
    have HW := Hid_mk hw
    have hk1 := lookS_lt l'
    have HF := Hid_mk hf
    have HN := Hid_mk hn
    have hn0 : (0 : Int) ≤ (n : Int) := Int.natCast_nonneg _
    have hni : (n : Int) ≤ 201 := by omega
    by_cases hd : 48 ≤ lookS l' ∧ lookS l' ≤ 57
    · obtain ⟨b, l2, rfl⟩ : ∃ b l2, l' = b :: l2 := by
        cases l' with
        | nil => exact absurd hd.1 (by decide)
        | cons b l2 => exact ⟨b, l2, rfl⟩
      have hbk : lookS (b :: l2) = b.toNat := rfl
      rw [cntS, if_pos (by rw [← hbk]; exact hd)] at hrun
      have HSk := Hid_mk (skip_any hw (by simp))
      rw [List.drop_succ_cons, List.drop_zero] at HSk
      rw [← hbk] at hrun
      obtain ⟨y, hy⟩ : ∃ y, lookS (b :: l2) = y := ⟨_, rfl⟩
      unfold LkPost at HL2
      rw [hy] at HL2 hrun hd
      have hy1 : (48 : Int) ≤ (y : Int) := by omega
      have hy2 : (y : Int) ≤ 57 := by omega
      have hlt : ((y : Int) < 48) = False := by simp; omega
      have hgt : ((57 : Int) < (y : Int)) = False := by simp; omega
      have HM := Hid_mk (show min (10 * (n : Int) + ((y : Int) - 48)) 201 = ((min (10 * n + (y - 48)) 201 : Nat) : Int) by omega)
      have HRun := Hid_mk hrun
      clear hw hf hn hrun hd hbk hy
      go_wp2_with fail
      with_reducible refine HL2.out.mono ?_
      rintro e w1 ⟨rfl, rfl⟩
      go_wp2_with fail
      with_reducible refine HSk.out.mono ?_
      rintro e w1 ⟨rfl, hw1, hk1⟩
      have HW1 := Hid_mk hw1
      have HK1 := Hid_mk (HKq.out.trans' hk1)
      clear hw1 hk1
      go_wp2
      rw [HM.out]
      go_step3
      exact ⟨rfl, f, Nat.lt_succ_self f, _, _, _, _, _, _, _, _, _, _, _, _, _, _, _, _, _, _, _, _, _, _, _, _, _, _, _, _, _, _, rfl, HW1.out, Nat.min_le_right _ _, HRun.out, by have := HF.out; simp at this; omega, HK1.out⟩
    · have hrun2 : (n, l') = R := by
        cases l' with
        | nil => exact hrun
        | cons b l2 => rw [cntS, if_neg (by exact hd)] at hrun; exact hrun
      have HRun := Hid_mk hrun2
      unfold LkPost at HL2
      obtain ⟨y, hy⟩ : ∃ y, lookS l' = y := ⟨_, rfl⟩
      rw [hy] at HL2 hd hk1
      clear hw hf hn hrun hrun2 hy
      rcases (by omega : y < 48 ∨ 57 < y) with hlt | hgt
      · have hlt2 : (y : Int) < 48 := by omega
        go_wp2_with fail
        with_reducible refine HL2.out.mono ?_
        rintro e w1 ⟨rfl, rfl⟩
        go_wp2
        simp only [jumpF]
        go_ret
        rw [← HRun.out]
        exact ⟨rfl, HW.out, HKq.out⟩
      · have hlt2 : ¬ (y : Int) < 48 := by omega
        have hgt2 : (57 : Int) < (y : Int) := by omega
        go_wp2_with fail
        with_reducible refine HL2.out.mono ?_
        rintro e w1 ⟨rfl, rfl⟩
        go_wp2
        simp only [jumpF]
        go_ret
        rw [← HRun.out]
        exact ⟨rfl, HW.out, HKq.out⟩
  case first =>
    intro hpass
    have HP := Hid_mk hpass
    have hne : ((lookS l : Int) == 42) = false := by have := HS.out; simp; omega
    unfold LkPost at HL
    obtain ⟨y, hy⟩ : ∃ y, lookS l = y := ⟨_, rfl⟩
    rw [hy] at HL hne
    clear hpass hy
    go_wp2_with fail
    with_reducible refine HL.out.mono ?_
    rintro e w1 ⟨rfl, rfl⟩
    go_wp2
    apply wp_label
    rename_i hK0
    exact hK0 _ _ (HP.out (l.length + 1) _ _ ⟨_, _, _, _, _, _, _, _, _, _, _, _, _, _, _, _, _, _, _, _, _, _, _, _, _, _, _, _, 0, l, rfl, H.out, by omega, HR.out, Nat.le_refl _, Kp.refl _ _⟩)

theorem add_len (bs s : List UInt8) (h : bs.length ≤ 257) : (addS bs s).length ≤ 257 := by unfold addS; rw [List.length_append, List.length_take]; omega
theorem cutS_len (l : List UInt8) : (cutS l).1.length ≤ l.length ∧ (cutS l).2.1.length ≤ l.length := by
  unfold cutS
  split
  · simp only [List.length_take, List.length_drop]; omega
  · simp
theorem cutS_more (l : List UInt8) (h : (cutS l).2.2 = true) (h2 : 0 < (cutS l).2.1.length) : (cutS l).2.1.length + 1 ≤ l.length := by
  unfold cutS at h h2 ⊢
  split at h
  · rename_i h0; rw [if_pos h0] at h2 ⊢; simp only [List.length_drop] at h2 ⊢; omega
  · cases h
/-- what stands ahead of the next conversion: is there one, what is ahead, what is out -/
def txS : Nat → List UInt8 → List UInt8 → Bool × List UInt8 × List UInt8
  | 0, l, bs => (false, l, bs)
  | f + 1, l, bs => if (cutS l).2.2 = true ∧ lookS (cutS l).2.1 = 37 then txS f ((cutS l).2.1.drop 1) (addS (addS bs (cutS l).1) [37]) else ((cutS l).2.2, (cutS l).2.1, addS bs (cutS l).1)
def TePost (w0 : World) (q : Nat) (A : Value) (R : Bool × List UInt8 × List UInt8) (e : Ending) (w' : World) : Prop := e = .returned (.bool R.1) ∧ ∃ o, WkAt w0 w' q R.2.1 A o R.2.2
def TeJ (w0 : World) (q : Nat) (A : Value) (R : Bool × List UInt8 × List UInt8) (f : Nat) (a : Act) (wr : World) : Prop :=
  ∃ U3 U4 U5 U6 U7 U8 U9 U10 U11 U12 U13 U14 U15 U16 U17 U18 U19 U20 U21 U22 U23 U24 U25 U26 U27 U28 U29 U30 U31 U32 o l bs, a = { tmps := #[.pointer (some ⟨q, 0, none⟩), undef, .bool false, U3, U4, U5, U6, U7, U8, U9, U10, U11, U12, U13, U14, U15, U16, U17, U18, U19, U20, U21, U22, U23, U24, U25, U26, U27, U28, U29, U30, U31, U32], defers := [] } ∧ WkAt w0 wr q l A o bs ∧ bs.length ≤ 257 ∧ l.length ≤ 140737488355327 ∧ txS f l bs = R ∧ l.length + 1 ≤ f

set_option maxRecDepth 100000 in
set_option maxHeartbeats 4000000 in
theorem text_any {w0 w : World} {q : Nat} {l : List UInt8} {A o : Value} {bs : List UInt8} (h : WkAt w0 w q l A o bs) (hb : bs.length ≤ 257) (hl : l.length ≤ 140737488355327) :
    Calls Tryz.prog 8 #[.pointer (some ⟨q, 0, none⟩)] w (TePost w0 q A (txS (l.length + 1) l bs)) := by
  obtain ⟨R, hR⟩ : ∃ R, txS (l.length + 1) l bs = R := ⟨_, rfl⟩
  rw [hR]
  have HR := Hid_mk hR
  have H := Hid_mk h
  have HB := Hid_mk (And.intro hb hl)
  clear h hb hl hR
  go_enter Tryz.func8, Tryz.ntmps8
  go_wp2_with fail
  refine scope_one_g 0 (TeJ w0 q A R) rfl ?pass ?first
  case pass =>
    rintro f a' wr ⟨U3, U4, U5, U6, U7, U8, U9, U10, U11, U12, U13, U14, U15, U16, U17, U18, U19, U20, U21, U22, U23, U24, U25, U26, U27, U28, U29, U30, U31, U32, o', l', bs', rfl, hw, hb, hl, hrun, hf⟩
    obtain ⟨f, rfl⟩ : ∃ g, f = g + 1 := ⟨f - 1, by omega⟩
    have c0 := hw.c0
    have HW := Hid_mk hw
    have HC := Hid_mk (cutp_any wr l' hl)
    unfold CuPost at HC
    have hln := cutS_len l'
    have hmo := cutS_more l'
    rw [txS] at hrun
    obtain ⟨⟨x, y, z⟩, hx⟩ : ∃ x, cutS l' = x := ⟨_, rfl⟩
    simp only [hx] at HC hln hmo hrun
    have HLn := Hid_mk hln
    have HMo := Hid_mk hmo
    have HF := Hid_mk (And.intro hf (And.intro hb hl))
    have HRun := Hid_mk hrun
    clear hw hb hl hrun hf hx hln hmo
    go_upto_region 1 with fail
    go_wp2_with fail
    with_reducible refine HC.out.mono ?_
    rintro e w1 ⟨rfl, n1, rfl⟩
    have HW1 := Hid_mk (HW.out.no ((Kp.refl No wr).drewN n1))
    have HAd := Hid_mk (add_any HW1.out HF.out.2.1 x (by have := HLn.out; have := HF.out; omega))
    have HAl := Hid_mk (add_len bs' x HF.out.2.1)
    clear c0 HC
    go_upto_region 2 with fail
    go_wp2_with fail
    with_reducible refine HAd.out.mono ?_
    rintro e w2 ⟨rfl, o2, hw2, -, -⟩
    have c0 := hw2.c0
    have f0 := hw2.warm
    have HW3 := Hid_mk (hw2.text y)
    clear hw2 HAd HW1 HW
    obtain ⟨bs2, hbs2⟩ : ∃ b, addS bs' x = b := ⟨_, rfl⟩
    rw [hbs2] at HAl HW3 HRun
    clear hbs2
    go_upto_region 4 with fail
    obtain ⟨W3, hW3⟩ : ∃ W, w2.setCell ⟨q, 0, none⟩ (.string (st y)) = W := ⟨_, rfl⟩
    rw [hW3] at HW3 ⊢
    clear hW3 c0 f0
    cases z with
    | false =>
      have hrun := HRun.out
      rw [if_neg (by simp)] at hrun
      have HRun2 := Hid_mk hrun
      clear hrun
      go_wp2
      simp only [jumpF]
      go_ret
      rw [← HRun2.out]
      exact ⟨rfl, _, HW3.out⟩
    | true =>
      have HLk := Hid_mk (look_any HW3.out)
      unfold LkPost at HLk
      by_cases h37 : lookS y = 37
      · have hrun := HRun.out
        rw [if_pos ⟨rfl, h37⟩] at hrun
        have hyl : 0 < y.length := by
          cases y with
          | nil => exact absurd h37 (by decide)
          | cons a b => simp
        have HRun2 := Hid_mk hrun
        have HSk := Hid_mk (skip_any HW3.out hyl)
        rw [h37] at HLk
        have HYl := Hid_mk hyl
        clear hrun h37 hyl
        go_wp2_with fail
        with_reducible refine HLk.out.mono ?_
        rintro e w4 ⟨rfl, rfl⟩
        go_wp2_with fail
        with_reducible refine HSk.out.mono ?_
        rintro e w5 ⟨rfl, hw5, -⟩
        have HAd := Hid_mk (add_any hw5 HAl.out [37] (by simp))
        rw [show st [37] = ⟨#[37]⟩ from rfl] at HAd
        clear hw5
        go_wp2_with fail
        with_reducible refine HAd.out.mono ?_
        rintro e w6 ⟨rfl, o6, hw6, -, -⟩
        have HW6 := Hid_mk hw6
        clear hw6
        go_wp2
        go_step3
        exact ⟨rfl, f, Nat.lt_succ_self f, _, _, _, _, _, _, _, _, _, _, _, _, _, _, _, _, _, _, _, _, _, _, _, _, _, _, _, _, _, _, _, _, _, rfl, HW6.out, add_len _ _ HAl.out, by have := HF.out; have := HLn.out; simp; omega, HRun2.out, by have := HF.out; have := HMo.out (by first | rfl | trivial) HYl.out; have := HYl.out; simp; omega⟩
      · have hrun := HRun.out
        rw [if_neg (by simp [h37])] at hrun
        have HRun2 := Hid_mk hrun
        have hne : ((lookS y : Int) == 37) = false := by simp; omega
        obtain ⟨k, hk⟩ : ∃ k, lookS y = k := ⟨_, rfl⟩
        rw [hk] at HLk hne
        clear hrun h37 hk
        go_wp2_with fail
        with_reducible refine HLk.out.mono ?_
        rintro e w4 ⟨rfl, rfl⟩
        go_wp2
        simp only [jumpF]
        go_ret
        rw [← HRun2.out]
        exact ⟨rfl, _, HW3.out⟩
  case first =>
    intro hpass
    have HP := Hid_mk hpass
    clear hpass
    go_wp2
    apply wp_label
    rename_i hK0
    exact hK0 _ _ (HP.out (l.length + 1) _ _ ⟨_, _, _, _, _, _, _, _, _, _, _, _, _, _, _, _, _, _, _, _, _, _, _, _, _, _, _, _, _, _, _, l, bs, rfl, H.out, HB.out.1, HB.out.2, HR.out, Nat.le_refl _⟩)

end Go.Proofs.YtannbdbhkhmppaaGreatDoor.pf
