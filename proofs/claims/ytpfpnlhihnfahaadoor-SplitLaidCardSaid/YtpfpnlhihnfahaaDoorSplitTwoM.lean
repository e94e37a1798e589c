/- Both splitters side by side; a step of the law SplitPlays. The records of bytes, in plain words: whole, in pieces, of one byte, of paragraphs. No program is named here. The laws' first lines: chapter 7's first example, over what is asked of the project's Splitter. What the float operations of 64 bits give on whole numbers below 2^53: the whole number itself, exactly. Plain arithmetic: no program is named here. -/
import Derived.Test.YtpfpnlhihnfahaaDoorParasM
import Derived.Test.YtpfpnlhihnfahaaDoorRefNextM
import Derived.Test.YtpfpnlhihnfahaaDoorBaseM
import Derived.Test.YtpfpnlhihnfahaaDoorFsPlainM
import Derived.Lib.SlBytesConst
import Derived.Laws.ComplexArith

namespace Go.Proofs.YtpfpnlhihnfahaaDoor.spl
open Go.RowKit Go.Maps Go.Proofs.YtpfpnlhihnfahaaDoor.sum Go.Proofs.YtpfpnlhihnfahaaDoor.kept Go.Proofs.YtpfpnlhihnfahaaDoor.app Go.Proofs.YtpfpnlhihnfahaaDoor.writer Go.Proofs.YtpfpnlhihnfahaaDoor.clone Go.Proofs.YtpfpnlhihnfahaaDoor.known Go.Proofs.YtpfpnlhihnfahaaDoor.unseal Go.Proofs.YtpfpnlhihnfahaaDoor.snp
set_option linter.unusedVariables false

/-- what is not the project's splitter's, nor the reference's own block -/
def Oth (ρ : Nat → Bool) (r : Nat) : Nat → Prop := fun x => ρ x = false ∧ x ≠ r
/-- both, the project's in state t, the reference's in state u; all that was there in w0 is as it was -/
structure Tw (w0 w : World) (base p r : Nat) (ρ : Nat → Bool) (m : Nat) (t u : SpS) : Prop where
  sp : PSp w base p ρ m t
  rs : Rs (Oth ρ r) w r m u
  nr : ρ r = false
  kp : Kp No w0 w
  b0 : w0.heap.size ≤ base
  br : w0.heap.size ≤ r

section
variable {w0 w w' : World} {base p r m : Nat} {ρ : Nat → Bool} {t u t' u' : SpS} {res : Value} {e : Ending}
theorem Tw.low (h : Tw w0 w base p r ρ m t u) {k : Nat} (hk : k < w0.heap.size) : ρ k = false ∧ k ≠ r := by
  refine ⟨?_, fun e => by have := h.br; omega⟩
  cases hρ : ρ k with
  | false => rfl
  | true => have := (h.sp.low k hρ).1; have := h.b0; omega
theorem Tw.rlt (h : Tw w0 w base p r ρ m t u) : r < w.heap.size := by obtain ⟨_, _, hh⟩ := h.rs; exact hh.lt
theorem Tw.new (h : Tw w0 w base p r ρ m t u) {k : Nat} (hk : w.heap.size ≤ k) : Oth ρ r k := by obtain ⟨_, _, hh⟩ := h.rs; exact hh.up k hk
/-- what turns only others' memory -/
theorem Tw.oth {S : Nat → Prop} (h : Tw w0 w base p r ρ m t u) (hk : Kp S w w') (h1 : ∀ k, ρ k = true → ¬ S k) (h2 : ¬ S r) (h3 : ∀ vh vr, RsAt (Oth ρ r) w r m u vh vr → (u.held ≠ [] → ∀ x o n c, vh = .slice (some ⟨x, o, none⟩) n c → ¬ S x) ∧ (u.rest ≠ [] → ∀ x o n c, vr = .slice (some ⟨x, o, none⟩) n c → ¬ S x)) (h0 : ∀ k, k < w0.heap.size → ¬ S k) : Tw w0 w' base p r ρ m t u := by
  refine ⟨h.sp.kept hk h1, ?_, h.nr, h.kp.trans hk fun i hi e => absurd e (h0 i hi), h.b0, h.br⟩
  obtain ⟨vh, vr, hh⟩ := h.rs
  exact ⟨vh, vr, hh.kept hk h2 (h3 vh vr hh).1 (h3 vh vr hh).2⟩
theorem Tw.no (h : Tw w0 w base p r ρ m t u) (hk : Kp No w w') : Tw w0 w' base p r ρ m t u := h.oth hk (fun _ _ => id) id (fun _ _ _ => ⟨fun _ _ _ _ _ _ => id, fun _ _ _ _ _ _ => id⟩) fun _ _ => id
theorem FrS.oth {ρ' : Nat → Bool} (h : FrS ρ w ρ' w') {k : Nat} (hk : k < w.heap.size) (h1 : Oth ρ r k) : Oth ρ' r k := ⟨h.2 k hk h1.1, h1.2⟩
/-- a call of the project's -/
theorem Tw.call1 (h : Tw w0 w base p r ρ m t u) (hp : SpPost PSp w base p ρ m t' res e w') : e = .returned res ∧ ∃ ρ', Tw w0 w' base p r ρ' m t' u ∧ FrS ρ w ρ' w' := by
  obtain ⟨he, ρ', h1, h2⟩ := hp
  refine ⟨he, ρ', ⟨h1, ?_, h2.2 r h.rlt h.nr, h.kp.trans h2.1 fun i hi e2 => ?_, h.b0, h.br⟩, h2⟩
  · obtain ⟨vh, vr, hh⟩ := h.rs
    have hx : ∀ {v : Value} {bs : List UInt8}, Bs w v bs → bs ≠ [] → ∀ x o n c, v = .slice (some ⟨x, o, none⟩) n c → x < w.heap.size := fun hb hne x o n c e => by
      obtain ⟨a2, c2, e2, -, -, h4⟩ := hb
      obtain ⟨b2, o2, e3, hc⟩ := h4 hne
      rw [e] at e2
      simp only [Value.slice.injEq] at e2
      rw [← e2.1] at e3
      cases e3
      exact World.block_lt_of_cell? w _ (hc 0 (List.length_pos_iff.2 hne))
    have k1 := hh.kept h2.1 (by rw [h.nr]; simp) (fun hne x o n c e e2 => by rw [(hh.ah hne x o n c e).1] at e2; cases e2) (fun hne x o n c e e2 => by rw [(hh.ar hne x o n c e).1] at e2; cases e2)
    refine ⟨vh, vr, k1.c0, k1.c1, k1.c2, k1.c3, k1.c4, k1.warm, k1.held, k1.rest, fun hne x o n c e => h2.oth (hx hh.held hne x o n c e) (hh.ah hne x o n c e), fun hne x o n c e => h2.oth (hx hh.rest hne x o n c e) (hh.ar hne x o n c e), fun e => e.2 rfl, fun k hk => ⟨?_, fun e => by have := k1.lt; omega⟩⟩
    cases hρ : ρ' k with
    | false => rfl
    | true => have := (h1.low k hρ).2; omega
  · have e3 : ρ i = true := e2
    rw [(h.low hi).1] at e3; cases e3
/-- a call of the reference's -/
theorem Tw.call2 (h : Tw w0 w base p r ρ m t u) (hp : RsPost (Oth ρ r) w r m u' res e w') : e = .returned res ∧ Tw w0 w' base p r ρ m t u' ∧ Kp (fun k => k = r) w w' := by
  obtain ⟨he, h1, h2⟩ := hp
  refine ⟨he, ⟨h.sp.kept h2 fun k hk e2 => ?_, h1.out, h.nr, h.kp.trans h2 fun i hi e2 => absurd e2 (h.low hi).2, h.b0, h.br⟩, h2⟩
  rw [e2, h.nr] at hk; cases hk
end

/-- a step -/
structure SR7 where
  what : Int
  x : Value
  bs : List UInt8
  rs : ByteArray
  near : Bool
/-- its separator -/
def rsS (what : Int) (near : Bool) (rs : List UInt8) : List UInt8 := if near = true then sepL ((what.tdiv 9) % 5).toNat else rs
theorem tx_of (s : ByteArray) : tx s.data.toList = s := by
  apply ByteArray.ext
  simp [tx]

set_option maxRecDepth 100000 in
set_option maxHeartbeats 4000000 in
theorem rs_any (w : World) (what : Int) (v : Value) (bs : List UInt8) (rs : ByteArray) (near : Bool) (hb : Bs w v bs) (hq : Sq w) (hw : -9223372036854775808 ≤ what ∧ what ≤ 9223372036854775807) :
    Calls Tryd.prog 12 #[.agg #[.int .i64 what, v, .string rs, .bool near]] w fun e w' => e = .returned (.string (tx (rsS what near rs.data.toList))) ∧ Kp No w w' := by
  obtain ⟨a, c, rfl, -⟩ := id hb
  have hg : 0 < w.heap.size := World.block_lt_of_cell? w _ (hq 0 (by omega))
  cases near with
  | false =>
    have e1 : rsS what false rs.data.toList = rs.data.toList := rfl
    rw [e1, tx_of]
    go_enter Tryd.func12, Tryd.ntmps12
    go_wp2
    go_ret
    exact ⟨rfl, (Kp.refl _ _).alloc _⟩
  | true =>
    obtain ⟨K, hK⟩ : ∃ K : Nat, (what.tdiv 9) % 5 = (K : Int) := ⟨((what.tdiv 9) % 5).toNat, by have := Int.emod_nonneg (what.tdiv 9) (show (5 : Int) ≠ 0 by omega); omega⟩
    have hK5 : K < 5 := by have := Int.emod_lt_of_pos (what.tdiv 9) (show (0 : Int) < 5 by omega); omega
    have e1 : rsS what true rs.data.toList = sepL K := by
      unfold rsS
      rw [if_pos rfl, hK]
      rfl
    rw [e1]
    have hcell := fun o => (((Kp.refl No w).alloc o)).cell' (hq K hK5) id
    have hk0 : (0 : Int) ≤ (K : Int) := Int.natCast_nonneg _
    have hki : (K : Int) < 5 := by omega
    have HPk := Hid_mk fun W => turned.pick_any (what.tdiv 9) 5 (by omega) (by omega) W
    have hwr : IntKind.i64.wrap (what.tdiv 9) = what.tdiv 9 := IntWalk.i64_in _ (by have h1 : (what.tdiv 9).natAbs = what.natAbs / 9 := Int.natAbs_tdiv what 9; omega)
    clear hq hb
    go_enter Tryd.func12, Tryd.ntmps12
    go_wp2_with fail
    with_reducible refine (HPk.out _).mono ?_
    rintro e w' ⟨rfl, rfl⟩
    rw [hK]
    go_wp2
    go_ret
    exact ⟨rfl, (Kp.refl _ _).alloc _⟩

end Go.Proofs.YtpfpnlhihnfahaaDoor.spl

namespace Go.Proofs.YtpfpnlhihnfahaaDoor.spl
set_option linter.unusedVariables false

/-- looked at, with nothing left -/
def dryR (s : SpS) : SpS := { s with rest := [] }
theorem next_some {m : Nat} {rs : List UInt8} {s t : SpS} {x : List UInt8} (hd : DryS rs s) (h : nextS m rs s = (some x, t)) :
    (eatS m rs s.rest (dryR s)).1 = x :: (eatS m rs t.rest (dryR t)).1 ∧ (eatS m rs s.rest (dryR s)).2 = (eatS m rs t.rest (dryR t)).2 ∧ t.rest.length < s.rest.length ∧ DryS rs t := by
  unfold nextS at h
  rw [readyS_dry hd] at h
  obtain ⟨h1, h2⟩ := goS_eat m rs s.rest s
  have h3 := goS_less m rs s.rest s
  have h4 := goS_dry (m := m) s.rest hd
  rw [h] at h1 h2 h3 h4
  simp only at h1 h2
  refine ⟨?_, (congrArg Prod.snd h2).symm, h3 x rfl, h4⟩
  have e : (eatS m rs t.rest (dryR t)).1 = (eatS m rs s.rest (dryR s)).1.tail := congrArg Prod.fst h2
  rw [e]
  show (eatS m rs s.rest (dryR s)).1 = _
  have h1' : some x = (eatS m rs s.rest (dryR s)).1.head? := h1
  cases hl : (eatS m rs s.rest (dryR s)).1 with
  | nil => rw [hl] at h1'; cases h1'
  | cons y r => rw [hl] at h1'; simp at h1'; subst h1'; rfl
theorem next_none {m : Nat} {rs : List UInt8} {s t : SpS} (hd : DryS rs s) (h : nextS m rs s = (none, t)) : eatS m rs s.rest (dryR s) = ([], t) ∧ t.rest = [] ∧ DryS rs t := by
  unfold nextS at h
  rw [readyS_dry hd] at h
  obtain ⟨h1, -⟩ := goS_eat m rs s.rest s
  have h3 := goS_none m rs s.rest s
  have h4 := goS_dry (m := m) s.rest hd
  rw [h] at h1 h3 h4
  have e2 : t = (eatS m rs s.rest (dryR s)).2 := h3 rfl
  have hr : t.rest = [] := by rw [e2]; exact eatS_rest m rs s.rest (dryR s) rfl
  refine ⟨Prod.ext ?_ e2.symm, hr, h4⟩
  have h1' : none = (eatS m rs s.rest (dryR s)).1.head? := h1
  cases hl : (eatS m rs s.rest (dryR s)).1 with
  | nil => rfl
  | cons y r => rw [hl] at h1'; cases h1'
/-- nothing is left: what Rest tells -/
theorem last_dry {m : Nat} {rs : List UInt8} {s : SpS} (hd : DryS rs s) (hr : s.rest = []) : lastS m rs s = if s.held = [] ∧ s.over = false then (none, s) else (some s.held, endS s) := by
  have hn : nextS m rs s = (none, s) := by
    unfold nextS
    rw [readyS_dry hd, hr]
    show (none, { s with rest := [] }) = _
    rw [← hr]
  unfold lastS
  rw [hn]
  rfl
/-- all records, with what follows the last one's end -/
def tailS (t : SpS) : List (List UInt8) := if t.held = [] ∧ t.over = false then [] else [t.held]
def recsS (m : Nat) (rs b : List UInt8) : List (List UInt8) := (eatS m rs b zeroS).1 ++ tailS (eatS m rs b zeroS).2

/-- of one byte: the state behind i bytes, of which the record under way began at f -/
def cutB (m : Nat) (b : List UInt8) (f i : Nat) : SpS := ⟨((b.take i).drop f).take m, decide (m < i - f), false, []⟩
theorem look_end (m : Nat) (c : UInt8) (s : SpS) : lookS m [c] s c = (true, s) := if_pos rfl
theorem look_put (m : Nat) {c x : UInt8} (h : x ≠ c) (s : SpS) : lookS m [c] s x = (false, putS m s x) := if_neg h
theorem eat_one_end (m : Nat) (c : UInt8) (s : SpS) : eatS m [c] [c] s = ([s.held], endS s) := by
  rw [eatS_cons, look_end, if_pos rfl]
  rfl
theorem eat_one_put (m : Nat) {c x : UInt8} (h : x ≠ c) (s : SpS) : eatS m [c] [x] s = ([], putS m s x) := by
  rw [eatS_cons, look_put m h, if_neg (by simp)]
  rfl
theorem cutB_put {m : Nat} {b : List UInt8} {f i : Nat} (hf : f ≤ i) (hi : i < b.length) : putS m (cutB m b f i) b[i] = cutB m b f (i + 1) := by
  have e : (b.take (i + 1)).drop f = (b.take i).drop f ++ [b[i]] := by
    rw [List.take_succ_eq_append_getElem hi, List.drop_append_of_le_length (by simp; omega)]
  have hl : ((b.take i).drop f).length = i - f := by simp; omega
  unfold putS cutB
  simp only [List.length_take, hl]
  rw [e]
  by_cases h : i - f < m
  · have t1 : ((b.take i).drop f).take m = (b.take i).drop f := List.take_of_length_le (by rw [hl]; omega)
    have t2 : ((b.take i).drop f ++ [b[i]]).take m = (b.take i).drop f ++ [b[i]] := List.take_of_length_le (by simp only [List.length_append, hl, List.length_singleton]; omega)
    have d1 : decide (m < i - f) = decide (m < i + 1 - f) := by simp only [decide_eq_decide]; omega
    rw [t1, t2, if_pos (by omega), d1]
  · have t2 : ((b.take i).drop f ++ [b[i]]).take m = ((b.take i).drop f).take m := List.take_append_of_le_length (by rw [hl]; omega)
    have d1 : decide (m < i + 1 - f) = true := by simp only [decide_eq_true_eq]; omega
    rw [t2, if_neg (by omega), d1]
theorem cutB_end (m : Nat) (b : List UInt8) (f i : Nat) : endS (cutB m b f i) = cutB m b (i + 1) (i + 1) := by
  have : (b.take (i + 1)).drop (i + 1) = [] := List.drop_eq_nil_of_le (by simp; omega)
  unfold endS cutB
  rw [this]
  simp
theorem cutB_zero (m : Nat) (b : List UInt8) : cutB m b 0 0 = zeroS := by simp [cutB, zeroS]
/-- the law's loop: behind i bytes -/
theorem byte_next {m : Nat} {b : List UInt8} {c : UInt8} {f i : Nat} {out : List (List UInt8)} (hf : f ≤ i) (hi : i < b.length) (h : eatS m [c] (b.take i) zeroS = (out, cutB m b f i)) :
    eatS m [c] (b.take (i + 1)) zeroS = if b[i] = c then (out ++ [((b.take i).drop f).take m], cutB m b (i + 1) (i + 1)) else (out, cutB m b f (i + 1)) := by
  rw [List.take_succ_eq_append_getElem hi, eatS_append, h]
  simp only
  split
  · next e =>
    rw [e, eat_one_end]
    show (out ++ [(cutB m b f i).held], endS (cutB m b f i)) = _
    rw [cutB_end]
    rfl
  · next e =>
    rw [eat_one_put m e, cutB_put hf hi]
    simp
theorem byte_tail {m : Nat} {b : List UInt8} {f : Nat} (hm : 1 ≤ m) (hf : f ≤ b.length) : tailS (cutB m b f b.length) = if f < b.length then [(b.drop f).take m] else [] := by
  unfold tailS cutB
  rw [List.take_length]
  by_cases h : f < b.length
  · rw [if_pos h, if_neg]
    rintro ⟨h1, -⟩
    have := congrArg List.length h1
    simp at this
    omega
  · rw [if_neg h, if_pos]
    refine ⟨?_, ?_⟩
    · rw [List.drop_eq_nil_of_le (by omega)]; simp
    · simp; omega

/-- a paragraph: not empty, a line feed at neither end, no two in a row -/
def noTwo : List UInt8 → Bool
  | a :: b :: r => !(a == 10 && b == 10) && noTwo (b :: r)
  | _ => true
def ParaB (x : List UInt8) : Prop := x ≠ [] ∧ x.head? ≠ some 10 ∧ x.getLast? ≠ some 10 ∧ noTwo x = true
theorem noTwo_snoc : ∀ (x : List UInt8) (b : UInt8), noTwo x = true → (b ≠ 10 ∨ x.getLast? ≠ some 10) → noTwo (x ++ [b]) = true
  | [], b, _, _ => rfl
  | [a], b, h, h2 => by
    show (!(a == 10 && b == 10) && true) = true
    rcases h2 with h2 | h2
    · simp [h2]
    · have : a ≠ 10 := fun e => h2 (by rw [e]; rfl)
      simp [this]
  | a :: c :: r, b, h, h2 => by
    have h' : (!(a == 10 && c == 10) && noTwo (c :: r)) = true := h
    simp only [Bool.and_eq_true] at h'
    show (!(a == 10 && c == 10) && noTwo ((c :: r) ++ [b])) = true
    rw [noTwo_snoc (c :: r) b h'.2 (by simpa [List.getLast?_cons] using h2), h'.1]
    rfl
/-- the record under way: a paragraph, or nothing; nothing waits behind nothing -/
def WayP (m : Nat) (s : SpS) (n : Nat) : Prop := (s.held = [] ∨ ParaB s.held) ∧ (s.waits = true → s.held ≠ []) ∧ s.over = false ∧ s.held.length + (if s.waits = true then 1 else 0) ≤ n
def text10 (x : List UInt8) : List UInt8 := x.filter fun b => b != 10
theorem text10_append (x y : List UInt8) : text10 (x ++ y) = text10 x ++ text10 y := List.filter_append ..

theorem para_snoc {x : List UInt8} {b : UInt8} (h : x = [] ∨ ParaB x) (hb : b ≠ 10) : ParaB (x ++ [b]) := by
  refine ⟨by simp, ?_, by simp [hb], ?_⟩
  · rcases h with rfl | h
    · simp [hb]
    · cases x with
      | nil => exact absurd rfl h.1
      | cons a r => exact h.2.1
  · rcases h with rfl | h
    · rfl
    · exact noTwo_snoc x b h.2.2.2 (.inl hb)
theorem para_snoc2 {x : List UInt8} {b : UInt8} (h : ParaB x) (hb : b ≠ 10) : ParaB (x ++ [10] ++ [b]) := by
  refine ⟨by simp, ?_, by simp [hb], ?_⟩
  · cases x with
    | nil => exact absurd rfl h.1
    | cons a r => exact h.2.1
  · exact noTwo_snoc _ b (noTwo_snoc x 10 h.2.2.2 (.inr h.2.2.1)) (.inl hb)

/-- one byte, by paragraphs -/
theorem way_next {m n : Nat} {s : SpS} (h : WayP m s n) (hn : n < m) (b : UInt8) :
    (lookS m [] s b).1 = true ∧ ParaB (lookS m [] s b).2.held ∧ WayP m (endS (lookS m [] s b).2) (n + 1) ∧ text10 (lookS m [] s b).2.held = text10 s.held ∧ b = 10 ∨
    (lookS m [] s b).1 = false ∧ WayP m (lookS m [] s b).2 (n + 1) ∧ text10 (lookS m [] s b).2.held = text10 s.held ++ text10 [b] := by
  obtain ⟨h1, h2, h3, h4⟩ := h
  unfold lookS
  simp only
  by_cases hb : b = 10
  · subst hb
    rw [if_pos rfl]
    by_cases hw : s.waits = true
    · rw [if_pos hw]
      refine .inl ⟨rfl, ?_, ⟨.inl rfl, (fun h => by cases h), rfl, Nat.zero_le _⟩, rfl, rfl⟩
      rcases h1 with h1 | h1
      · exact absurd h1 (h2 hw)
      · exact h1
    · rw [if_neg hw]
      refine .inr ⟨rfl, ⟨h1, fun h => ?_, h3, ?_⟩, by simp [text10]⟩
      · intro e
        have : (!s.held.isEmpty) = true := h
        rw [e] at this; cases this
      · show s.held.length + (if (!s.held.isEmpty) = true then 1 else 0) ≤ n + 1
        split <;> omega
  · rw [if_neg hb]
    by_cases hw : s.waits = true
    · have hp : ParaB s.held := by
        rcases h1 with h1 | h1
        · exact absurd h1 (h2 hw)
        · exact h1
      rw [if_pos hw] at h4
      have e1 : wakeS m s = { s with held := s.held ++ [10], waits := false } := by
        unfold wakeS putS
        rw [if_pos hw, if_pos (by omega)]
      have e2 : putS m (wakeS m s) b = { s with held := s.held ++ [10] ++ [b], waits := false } := by
        rw [e1]
        unfold putS
        rw [if_pos (by simp; omega)]
      rw [e2]
      refine .inr ⟨rfl, ⟨.inr (para_snoc2 hp hb), (fun h => by cases h), h3, ?_⟩, ?_⟩
      · simp; omega
      · show text10 (s.held ++ [10] ++ [b]) = _
        rw [text10_append, text10_append]
        simp [text10]
    · have e1 : wakeS m s = s := by unfold wakeS; rw [if_neg hw]
      rw [if_neg hw] at h4
      have e2 : putS m (wakeS m s) b = { s with held := s.held ++ [b] } := by
        rw [e1]
        unfold putS
        rw [if_pos (by omega)]
      rw [e2]
      refine .inr ⟨rfl, ⟨.inr (para_snoc h1 hb), (fun h => absurd h hw), h3, ?_⟩, text10_append _ _⟩
      simp only [hw, List.length_append, List.length_singleton]
      simp
      omega
theorem way_eat {m : Nat} : ∀ (b : List UInt8) {s : SpS} {n : Nat}, WayP m s n → n + b.length ≤ m →
    (∀ x ∈ (eatS m [] b s).1, ParaB x) ∧ WayP m (eatS m [] b s).2 (n + b.length) ∧ text10 ((eatS m [] b s).1.flatten ++ (eatS m [] b s).2.held) = text10 (s.held ++ b)
  | [], s, n, h, _ => ⟨(fun x hx => by cases hx), h, by simp [eatS]⟩
  | b :: r, s, n, h, hl => by
    simp only [List.length_cons] at hl
    rw [eatS_cons]
    rcases way_next h (by omega) b with ⟨h1, h2, h3, h4, h5⟩ | ⟨h1, h3, h4⟩
    · obtain ⟨g1, g2, g3⟩ := way_eat r h3 (by omega)
      rw [if_pos h1]
      refine ⟨fun x hx => ?_, by simp only [List.length_cons]; rw [show n + (r.length + 1) = n + 1 + r.length by omega]; exact g2, ?_⟩
      · rcases List.mem_cons.1 hx with rfl | hx
        · exact h2
        · exact g1 x hx
      · simp only [List.flatten_cons, List.append_assoc]
        rw [text10_append, g3, h4]
        show text10 s.held ++ text10 ([] ++ r) = _
        rw [h5, text10_append s.held]
        simp [text10]
    · obtain ⟨g1, g2, g3⟩ := way_eat r h3 (by omega)
      rw [if_neg (by rw [h1]; simp)]
      refine ⟨g1, by simp only [List.length_cons]; rw [show n + (r.length + 1) = n + 1 + r.length by omega]; exact g2, ?_⟩
      rw [g3, text10_append, h4, List.append_assoc, ← text10_append [b] r, ← text10_append]
      rfl
theorem paras_recs {m : Nat} {b : List UInt8} (hl : b.length ≤ m) : (∀ x ∈ recsS m [] b, ParaB x) ∧ text10 (recsS m [] b).flatten = text10 b := by
  have hz : WayP m zeroS 0 := ⟨.inl rfl, (fun h => by cases h), rfl, Nat.zero_le _⟩
  obtain ⟨g1, g2, g3⟩ := way_eat b hz (by omega)
  unfold recsS tailS
  split
  · next h =>
    rw [List.append_nil]
    rw [h.1, List.append_nil] at g3
    exact ⟨g1, g3⟩
  · next h =>
    refine ⟨fun x hx => ?_, ?_⟩
    · rcases List.mem_append.1 hx with hx | hx
      · exact g1 x hx
      · rw [List.mem_singleton.1 hx]
        rcases g2.1 with e | e
        · exact absurd ⟨e, g2.2.2.1⟩ h
        · exact e
    · rw [List.flatten_append]
      simp only [List.flatten_cons, List.flatten_nil, List.append_nil]
      exact g3

end Go.Proofs.YtpfpnlhihnfahaaDoor.spl

namespace Go.Proofs.YtpfpnlhihnfahaaDoor.spl
open Go.RowKit Go.Maps Go.Proofs.YtpfpnlhihnfahaaDoor.sum Go.Proofs.YtpfpnlhihnfahaaDoor.kept Go.Proofs.YtpfpnlhihnfahaaDoor.app Go.Proofs.YtpfpnlhihnfahaaDoor.writer Go.Proofs.YtpfpnlhihnfahaaDoor.clone Go.Proofs.YtpfpnlhihnfahaaDoor.known Go.Proofs.YtpfpnlhihnfahaaDoor.unseal Go.Proofs.YtpfpnlhihnfahaaDoor.snp
set_option linter.unusedVariables false

def spOf (h : List UInt8) (o : Bool) (r : List UInt8) : SpS := ⟨h, o, false, r⟩

section
variable {Sp : SpT} {w w1 : World} {base p m : Nat} {ρ : Nat → Bool} {s t : SpS}
/-- a call beside a world that is let be -/
theorem SplitC.step (C : SplitC Sp) (hs : Sp w1 base p ρ m s) (hk : Kp No w w1) (hb : w.heap.size ≤ base) {f : FuncId} {args : Array Value} {res : Value} (h : Calls Tryd.prog f args w1 (SpPost Sp w1 base p ρ m t res)) :
    Calls Tryd.prog f args w1 fun e w2 => e = .returned res ∧ Hid ((∃ ρ', Sp w2 base p ρ' m t) ∧ Kp No w w2) := by
  refine h.mono ?_
  rintro e w2 ⟨he, ρ', h1, h2⟩
  exact ⟨he, Hid_mk ⟨⟨ρ', h1⟩, hk.trans h2.1 fun i hi e2 => by have := (C.low hs i e2).1; omega⟩⟩
theorem SplitC.new_low (C : SplitC Sp) (hs : Sp w1 base p ρ m s) {k : Nat} (hk : w1.heap.size ≤ k) : ρ k = false := by
  cases hρ : ρ k with
  | false => rfl
  | true => have := (C.low hs k hρ).2; omega
end

set_option maxRecDepth 100000 in
set_option maxHeartbeats 4000000 in
theorem splitknown_any {Sp : SpT} (C : SplitC Sp) (w : World) : Calls Tryd.prog 8 #[] w fun e w' => e = .returned (.bool true) ∧ Kp No w w' := by
  have kc := fun (w : World) (D : Array Value) (n c : Nat) => Lib.run_convert_bytes_const (P := Tryd.prog) w 30 5 D n c Tryd.underlying30 Tryd.underlying5
  have HN := Hid_mk (show Calls Tryd.prog 7 #[.int .i64 4] w _ from C.new_ok w 4 (by omega) (by omega))
  go_enter Tryd.func8, Tryd.ntmps8
  go_wp2_with fail
  with_reducible refine HN.out.mono ?_
  rintro e w1 ⟨p, ρ1, rfl, hs1, hk1⟩
  have HS1 := Hid_mk hs1
  have HK1 := Hid_mk hk1
  clear HN hs1 hk1
  have kk1 : Kp No w1 (w1.alloc (.cells #[.int .u8 97, .int .u8 98] 5 (2, 3))) := (Kp.refl _ _).alloc _
  have HF1 : Hid (Calls Tryd.prog 10 #[.pointer (some ⟨p, 0, none⟩), .slice (some ⟨w1.heap.size, 0, none⟩) 2 2] (w1.alloc (.cells #[.int .u8 97, .int .u8 98] 5 (2, 3))) fun e w2 => e = .returned (.tuple #[]) ∧ Hid ((∃ ρ', Sp w2 w.heap.size p ρ' 4 (spOf [] false [97, 98])) ∧ Kp No w w2)) :=
    Hid_mk (C.step (C.no HS1.out kk1) (HK1.out.trans' kk1) (Nat.le_refl _) (C.feed _ w.heap.size p ρ1 4 zeroS _ [97, 98] (C.no HS1.out kk1) (bs_lit w1 [97, 98] (2, 3) (by decide)) (fun _ x o n c e => by cases e; exact C.new_low HS1.out (Nat.le_refl _)) (by decide)))
  go_wp2_with fail
  with_reducible refine HF1.out.mono ?_
  rintro e w2 ⟨rfl, H2⟩
  obtain ⟨⟨ρ2, hs2⟩, hk2⟩ := H2.out
  have HX2 : Hid (Calls Tryd.prog 11 #[.pointer (some ⟨p, 0, none⟩), .string ⟨#[10]⟩] w2 fun e w3 => e = .returned (.tuple #[.string ⟨#[]⟩, .bool false]) ∧ Hid ((∃ ρ', Sp w3 w.heap.size p ρ' 4 (spOf [97, 98] false [])) ∧ Kp No w w3)) :=
    Hid_mk (C.step hs2 hk2 (Nat.le_refl _) (C.next w2 w.heap.size p ρ2 4 _ [10] hs2 (by show 0 ≤ 4; omega) (by omega) (by decide) (by decide)))
  clear hs2 hk2 H2 HF1 kk1 HS1
  go_wp2_with fail
  with_reducible refine HX2.out.mono ?_
  rintro e w3 ⟨rfl, H3⟩
  obtain ⟨⟨ρ3, hs3⟩, hk3⟩ := H3.out
  have kk3 : Kp No w3 (w3.alloc (.cells #[.int .u8 99, .int .u8 10, .int .u8 100] 5 (3, 4))) := (Kp.refl _ _).alloc _
  have HF4 : Hid (Calls Tryd.prog 10 #[.pointer (some ⟨p, 0, none⟩), .slice (some ⟨w3.heap.size, 0, none⟩) 3 3] (w3.alloc (.cells #[.int .u8 99, .int .u8 10, .int .u8 100] 5 (3, 4))) fun e w4 => e = .returned (.tuple #[]) ∧ Hid ((∃ ρ', Sp w4 w.heap.size p ρ' 4 (spOf [97, 98] false [99, 10, 100])) ∧ Kp No w w4)) :=
    Hid_mk (C.step (C.no hs3 kk3) (hk3.trans' kk3) (Nat.le_refl _) (C.feed _ w.heap.size p ρ3 4 _ _ [99, 10, 100] (C.no hs3 kk3) (bs_lit w3 [99, 10, 100] (3, 4) (by decide)) (fun _ x o n c e => by cases e; exact C.new_low hs3 (Nat.le_refl _)) (by decide)))
  clear hs3 hk3 kk3 H3
  go_wp2_with fail
  with_reducible refine HF4.out.mono ?_
  rintro e w4 ⟨rfl, H4⟩
  obtain ⟨⟨ρ4, hs4⟩, hk4⟩ := H4.out
  clear HF4 H4
  have HX5 : Hid (Calls Tryd.prog 11 #[.pointer (some ⟨p, 0, none⟩), .string ⟨#[10]⟩] w4 fun e w5 => e = .returned (.tuple #[.string ⟨#[97, 98, 99]⟩, .bool true]) ∧ Hid ((∃ ρ', Sp w5 w.heap.size p ρ' 4 (spOf [] false [100])) ∧ Kp No w w5)) :=
    Hid_mk (C.step hs4 hk4 (Nat.le_refl _) (C.next w4 w.heap.size p ρ4 4 _ [10] hs4 (by unfold OkS spOf; decide) (by omega) (by decide) (by decide)))
  go_wp2_with fail
  with_reducible refine HX5.out.mono ?_
  rintro e w5 ⟨rfl, H5⟩
  obtain ⟨⟨ρ5, hs5⟩, hk5⟩ := H5.out
  clear HX5 hs4 hk4 H5
  have HX6 : Hid (Calls Tryd.prog 11 #[.pointer (some ⟨p, 0, none⟩), .string ⟨#[10]⟩] w5 fun e w6 => e = .returned (.tuple #[.string ⟨#[]⟩, .bool false]) ∧ Hid ((∃ ρ', Sp w6 w.heap.size p ρ' 4 (spOf [100] false [])) ∧ Kp No w w6)) :=
    Hid_mk (C.step hs5 hk5 (Nat.le_refl _) (C.next w5 w.heap.size p ρ5 4 _ [10] hs5 (by unfold OkS spOf; decide) (by omega) (by decide) (by decide)))
  go_wp2_with fail
  with_reducible refine HX6.out.mono ?_
  rintro e w6 ⟨rfl, H6⟩
  obtain ⟨⟨ρ6, hs6⟩, hk6⟩ := H6.out
  clear HX6 hs5 hk5 H6
  have HX7 : Hid (Calls Tryd.prog 14 #[.pointer (some ⟨p, 0, none⟩), .string ⟨#[10]⟩] w6 fun e w7 => e = .returned (.tuple #[.string ⟨#[100]⟩, .bool true]) ∧ Hid ((∃ ρ', Sp w7 w.heap.size p ρ' 4 (spOf [] false [])) ∧ Kp No w w7)) :=
    Hid_mk (C.step hs6 hk6 (Nat.le_refl _) (C.last w6 w.heap.size p ρ6 4 _ [10] hs6 (by unfold OkS spOf; decide) (by omega) (by decide) (by decide)))
  go_wp2_with fail
  with_reducible refine HX7.out.mono ?_
  rintro e w7 ⟨rfl, H7⟩
  obtain ⟨⟨ρ7, hs7⟩, hk7⟩ := H7.out
  clear HX7 hs6 hk6 H7
  have HX8 : Hid (Calls Tryd.prog 14 #[.pointer (some ⟨p, 0, none⟩), .string ⟨#[10]⟩] w7 fun e w8 => e = .returned (.tuple #[.string ⟨#[]⟩, .bool false]) ∧ Hid ((∃ ρ', Sp w8 w.heap.size p ρ' 4 (spOf [] false [])) ∧ Kp No w w8)) :=
    Hid_mk (C.step hs7 hk7 (Nat.le_refl _) (C.last w7 w.heap.size p ρ7 4 _ [10] hs7 (by unfold OkS spOf; decide) (by omega) (by decide) (by decide)))
  go_wp2_with fail
  with_reducible refine HX8.out.mono ?_
  rintro e w8 ⟨rfl, H8⟩
  obtain ⟨⟨ρ8, hs8⟩, hk8⟩ := H8.out
  clear HX8 hs7 hk7 H8
  have HK8 := Hid_mk hk8
  clear hs8 hk8
  go_wp2
  go_ret
  exact ⟨rfl, HK8.out⟩

end Go.Proofs.YtpfpnlhihnfahaaDoor.spl

namespace Go.Proofs.YtpfpnlhihnfahaaDoor.fl
open Ieee

theorem log2_mul_pow (n k : Nat) (h : 0 < n) : (n * 2 ^ k).log2 = n.log2 + k := by
  have h0 : n ≠ 0 := by omega
  have hp : 0 < 2 ^ k := Nat.two_pow_pos k
  have hm : n * 2 ^ k ≠ 0 := Nat.mul_ne_zero h0 (by omega)
  rw [Nat.log2_eq_iff hm]
  have a := Nat.log2_self_le h0
  have b : n < 2 ^ (n.log2 + 1) := Nat.lt_log2_self
  constructor
  · rw [Nat.pow_add]; exact Nat.mul_le_mul_right _ a
  · rw [show n.log2 + k + 1 = (n.log2 + 1) + k by omega, Nat.pow_add]; exact Nat.mul_lt_mul_of_pos_right b hp

theorem cut_exact (neg : Bool) (way : Toward) (x d : Nat) (h : d ≤ (x * 2 ^ d).log2 + 2) : way.cut neg (x * 2 ^ d) d = x := by
  have hp : 0 < 2 ^ d := Nat.two_pow_pos d
  unfold Toward.cut
  simp only [Nat.min_eq_left h, Nat.shiftLeft_eq, Nat.one_mul]
  rw [Nat.mul_div_cancel _ hp, Nat.mul_mod_left]
  cases way <;> simp <;> omega

theorem min_rung {E X : Nat} (hE : E ≤ 1922) (hX : X < 2 ^ 53) : min (E * 2 ^ 52 + X) (2047 * 2 ^ 52) = E * 2 ^ 52 + X := by
  rw [Nat.min_eq_left]
  have p53 : (2 : Nat) ^ 53 = 2 * 2 ^ 52 := by decide
  have h1 : E * 2 ^ 52 ≤ 1922 * 2 ^ 52 := Nat.mul_le_mul_right _ hE
  have h3 : 1922 * 2 ^ 52 + 2 * 2 ^ 52 ≤ 2047 * 2 ^ 52 := by decide
  rw [p53] at hX
  exact Nat.le_trans (Nat.add_le_add h1 (Nat.le_of_lt hX)) h3

/-- The word of n * 2^k * 2^(e-k): n below 2^53. -/
theorem nearest_exact (neg : Bool) (n k : Nat) (e : Int) (h : 0 < n) (hl : n.log2 ≤ 52) (h1 : -1022 ≤ e + n.log2) (h2 : e + n.log2 ≤ 900) :
    double.nearest neg (n * 2 ^ k) (e - k) = double.word neg ((e + n.log2 + 1022).toNat * 2 ^ 52 + n * 2 ^ (52 - n.log2)) := by
  have hp : 0 < 2 ^ k := Nat.two_pow_pos k
  have hm : n * 2 ^ k ≠ 0 := Nat.mul_ne_zero (by omega) (by omega)
  have hL := log2_mul_pow n k h
  unfold Format.nearest
  rw [if_neg hm]
  have hlast : max (e - (k : Int) + ((n * 2 ^ k).log2 : Nat) - (double.fractionBits : Nat)) double.leastPlace = e + n.log2 - 52 := by
    rw [hL]
    simp only [double, Format.leastPlace]
    simp
    omega
  simp only [hlast]
  have key : Toward.even.cut neg ((n * 2 ^ k) <<< (e - (k : Int) - (e + n.log2 - 52)).toNat) (e + n.log2 - 52 - (e - (k : Int))).toNat = n * 2 ^ (52 - n.log2) := by
    by_cases hk : k ≤ 52 - n.log2
    · have e1 : (e - (k : Int) - (e + n.log2 - 52)).toNat = 52 - n.log2 - k := by omega
      have e2 : (e + n.log2 - 52 - (e - (k : Int))).toNat = 0 := by omega
      rw [e1, e2, Nat.shiftLeft_eq, Nat.mul_assoc, ← Nat.pow_add, show k + (52 - n.log2 - k) = 52 - n.log2 by omega]
      have := cut_exact neg .even (n * 2 ^ (52 - n.log2)) 0 (Nat.zero_le _)
      simpa using this
    · have e1 : (e - (k : Int) - (e + n.log2 - 52)).toNat = 0 := by omega
      have e2 : (e + n.log2 - 52 - (e - (k : Int))).toNat = k - (52 - n.log2) := by omega
      rw [e1, e2, Nat.shiftLeft_zero]
      have hs : n * 2 ^ k = (n * 2 ^ (52 - n.log2)) * 2 ^ (k - (52 - n.log2)) := by
        rw [Nat.mul_assoc, ← Nat.pow_add]; congr 2; omega
      rw [hs]
      apply cut_exact
      rw [← hs, hL]; omega
  rw [key]
  have hX : n * 2 ^ (52 - n.log2) < 2 ^ 53 := by
    have b : n < 2 ^ (n.log2 + 1) := Nat.lt_log2_self
    have : n * 2 ^ (52 - n.log2) < 2 ^ (n.log2 + 1) * 2 ^ (52 - n.log2) := Nat.mul_lt_mul_of_pos_right b (Nat.two_pow_pos _)
    rw [← Nat.pow_add, show n.log2 + 1 + (52 - n.log2) = 53 by omega] at this
    exact this
  have hlp : double.leastPlace = -1074 := by decide
  have hb : double.binade = 2 ^ 52 := rfl
  have hi : double.infRung = 2047 * 2 ^ 52 := by decide
  rw [hlp, hb, hi]
  have e3 : (e + (n.log2 : Int) - 52 - -1074).toNat = (e + n.log2 + 1022).toNat := by omega
  have h4 : (e + n.log2 + 1022).toNat ≤ 1922 := by omega
  rw [e3, min_rung h4 hX]

theorem norm_bounds (n : Nat) (h : 0 < n) (hl : n.log2 ≤ 52) : 2 ^ 52 ≤ n * 2 ^ (52 - n.log2) ∧ n * 2 ^ (52 - n.log2) < 2 ^ 53 := by
  have a := Nat.log2_self_le (n := n) (by omega)
  have b : n < 2 ^ (n.log2 + 1) := Nat.lt_log2_self
  constructor
  · have := Nat.mul_le_mul_right (2 ^ (52 - n.log2)) a
    rw [← Nat.pow_add, show n.log2 + (52 - n.log2) = 52 by omega] at this
    exact this
  · have : n * 2 ^ (52 - n.log2) < 2 ^ (n.log2 + 1) * 2 ^ (52 - n.log2) := Nat.mul_lt_mul_of_pos_right b (Nat.two_pow_pos _)
    rw [← Nat.pow_add, show n.log2 + 1 + (52 - n.log2) = 53 by omega] at this
    exact this

theorem read_word (neg : Bool) (E X : Nat) (h1 : 2 ^ 52 ≤ X) (h2 : X < 2 ^ 53) (hE : E ≤ 1945) : double.read (double.word neg (E * 2 ^ 52 + X)) = .number neg X (-1074 + E) := by
  have hlp : double.leastPlace = -1074 := by decide
  have hb : double.binade = 4503599627370496 := by decide
  have hi : double.infRung = 9218868437227405312 := by decide
  have hsw : double.signWeight = 9223372036854775808 := by decide
  obtain ⟨r, rfl⟩ : ∃ r, X = 4503599627370496 + r := ⟨X - 4503599627370496, by omega⟩
  have hr : r < 4503599627370496 := by omega
  have hq : (E * 2 ^ 52 + (4503599627370496 + r)) / 4503599627370496 = E + 1 := by omega
  have hmod : (E * 2 ^ 52 + (4503599627370496 + r)) % 4503599627370496 = r := by omega
  have hlt : E * 2 ^ 52 + (4503599627370496 + r) < 9218868437227405312 := by omega
  have hge : ¬ E * 2 ^ 52 + (4503599627370496 + r) < 4503599627370496 := by omega
  generalize E * 2 ^ 52 + (4503599627370496 + r) = R at *
  have hw : double.word neg R / 9223372036854775808 % 2 = (if neg then 1 else 0) ∧ double.word neg R % 9223372036854775808 = R := by
    unfold Format.word
    rw [hsw]
    cases neg
    · simp; omega
    · simp; omega
  unfold Format.read
  simp only [hlp, hb, hi, hsw, hw.1, hw.2, hlt, hge, if_true, if_false, hq, hmod]
  cases neg <;> simp

theorem read_zero (neg : Bool) : double.read (double.word neg 0) = .number neg 0 (-1074) := by
  cases neg <;> decide

/-- The word of a whole number. -/
def fl (z : Int) : Nat := floatOfInt .f64 z

theorem fl_eq (z : Int) : fl z = double.nearest (decide (z < 0)) z.natAbs 0 := rfl

def Small (z : Int) : Prop := z.natAbs < 2 ^ 53

theorem small_log {n : Nat} (h0 : 0 < n) (h : n < 2 ^ 53) : n.log2 ≤ 52 := by
  have := (Nat.log2_lt (n := n) (k := 53) (by omega)).2 h
  omega

theorem word_of {neg : Bool} {n : Nat} (k : Nat) (h : 0 < n) (hs : n < 2 ^ 53) : double.nearest neg (n * 2 ^ k) (-(k : Int)) = double.nearest neg n 0 := by
  have hl := small_log h hs
  have a := nearest_exact neg n k 0 h hl (by omega) (by omega)
  have b := nearest_exact neg n 0 0 h hl (by omega) (by omega)
  simp only [Nat.pow_zero, Nat.mul_one, Int.natCast_zero, Int.sub_zero, Int.zero_sub] at a b
  rw [a, b]

theorem nearest_zero (neg : Bool) (e : Int) : double.nearest neg 0 e = double.word neg 0 := by
  simp [Format.nearest]

/-- What a whole number's word is read as. -/
theorem read_fl (z : Int) (h : Small z) : ∃ q : Nat, q ≤ 1074 ∧ double.read (fl z) = .number (decide (z < 0)) (z.natAbs * 2 ^ q) (-(q : Int)) := by
  unfold Small at h
  by_cases hz : z = 0
  · subst hz
    refine ⟨1074, Nat.le_refl _, ?_⟩
    rw [fl_eq]
    simp only [Int.natAbs_zero, nearest_zero, read_zero, Nat.zero_mul]
    rfl
  · have h0 : 0 < z.natAbs := by omega
    have hl := small_log h0 h
    have a := nearest_exact (decide (z < 0)) z.natAbs 0 0 h0 hl (by omega) (by omega)
    simp only [Nat.pow_zero, Nat.mul_one, Int.natCast_zero, Int.sub_zero, Int.zero_add] at a
    have nb := norm_bounds z.natAbs h0 hl
    refine ⟨52 - z.natAbs.log2, by omega, ?_⟩
    have e : (((z.natAbs.log2 : Int) + 1022).toNat) ≤ 1945 := by omega
    have e2 : (-1074 + (((z.natAbs.log2 : Int) + 1022).toNat : Nat) : Int) = -((52 - z.natAbs.log2 : Nat) : Int) := by omega
    rw [fl_eq, a, read_word _ _ _ nb.1 nb.2 e, e2]

theorem signed_eq (z : Int) (q up : Nat) : signed (decide (z < 0)) (z.natAbs * 2 ^ q) up = z * (2 ^ (q + up) : Nat) := by
  unfold signed
  rw [Nat.shiftLeft_eq, Nat.mul_assoc, ← Nat.pow_add]
  by_cases h : z < 0
  · rw [if_pos (by simpa using h)]
    have e : z = -(z.natAbs : Int) := by omega
    generalize z.natAbs = n at e
    subst e
    simp [Int.neg_mul]
  · rw [if_neg (by simpa using h)]
    have e : z = (z.natAbs : Int) := by omega
    generalize z.natAbs = n at e
    subst e
    simp

theorem mul_pow_zero (z : Int) (q : Nat) : z * (2 ^ q : Nat) = 0 ↔ z = 0 := by
  have hp : 0 < 2 ^ q := Nat.two_pow_pos q
  constructor
  · intro h
    rcases Int.mul_eq_zero.1 h with h | h
    · exact h
    · omega
  · intro h; subst h; simp
theorem mul_pow_neg (z : Int) (q : Nat) : z * (2 ^ q : Nat) < 0 ↔ z < 0 := by
  have hp : 0 < 2 ^ q := Nat.two_pow_pos q
  have hp' : (0 : Int) < (2 ^ q : Nat) := by omega
  constructor
  · intro h
    by_cases hz : z < 0
    · exact hz
    · exact absurd h (Int.not_lt.2 (Int.mul_nonneg (by omega) (by omega)))
  · intro h; exact Int.mul_neg_of_neg_of_pos h hp'
theorem mul_pow_abs (z : Int) (q : Nat) : (z * (2 ^ q : Nat)).natAbs = z.natAbs * 2 ^ q := by
  rw [Int.natAbs_mul, Int.natAbs_natCast]

/-- The word of a sum's datum. -/
theorem write_sum (c : Int) (k : Nat) (hc : Small c) (neg : Bool) (h0 : neg = decide (c < 0)) : double.write (.number neg (c * (2 ^ k : Nat)).natAbs (-(k : Int))) = fl c := by
  subst h0
  show double.nearest _ _ _ = _
  rw [mul_pow_abs]
  by_cases hz : c = 0
  · subst hz; simp [nearest_zero, fl_eq]
  · rw [word_of k (by omega) hc]; rfl

theorem sum_data (a b : Int) (q r : Nat) (hc : Small (a + b)) (s t : Bool) (ms mt : Nat)
    (hs : ∀ up, signed s ms up = a * (2 ^ (q + up) : Nat)) (ht : ∀ up, signed t mt up = b * (2 ^ (r + up) : Nat)) (hz : a + b = 0 → (s && t) = false) :
    ((Datum.number s ms (-(q : Int))).sum (.number t mt (-(r : Int)))).map double.write = some (fl (a + b)) := by
  have hb : min (-(q : Int)) (-(r : Int)) = -((max q r : Nat) : Int) := by omega
  have e1 : (-(q : Int) - -((max q r : Nat) : Int)).toNat = max q r - q := by omega
  have e2 : (-(r : Int) - -((max q r : Nat) : Int)).toNat = max q r - r := by omega
  simp only [Datum.sum, hb, e1, e2, hs, ht, Option.map_some]
  rw [show q + (max q r - q) = max q r by omega, show r + (max q r - r) = max q r by omega, ← Int.add_mul]
  congr 1
  apply write_sum _ _ hc
  simp only [mul_pow_zero, mul_pow_neg]
  split
  · rename_i h
    rw [hz h, h]; rfl
  · rfl

theorem fl_add (a b : Int) (ha : Small a) (hb : Small b) (hc : Small (a + b)) : floatBits .add .f64 (fl a) (fl b) = some (fl (a + b)) := by
  obtain ⟨q, _, hq⟩ := read_fl a ha
  obtain ⟨r, _, hr⟩ := read_fl b hb
  show ((double.read (fl a)).sum (double.read (fl b))).map double.write = _
  rw [hq, hr]
  refine sum_data a b q r hc _ _ _ _ (signed_eq a q) (signed_eq b r) ?_
  intro h
  by_cases h1 : a < 0 <;> by_cases h2 : b < 0 <;> simp [h1, h2] <;> omega

theorem signed_opp (z : Int) (q up : Nat) : signed (!decide (z < 0)) (z.natAbs * 2 ^ q) up = (-z) * (2 ^ (q + up) : Nat) := by
  have h := signed_eq z q up
  rw [Int.neg_mul, ← h]
  unfold signed
  by_cases hz : z < 0 <;> simp [hz]

theorem fl_sub (a b : Int) (ha : Small a) (hb : Small b) (hc : Small (a - b)) : floatBits .sub .f64 (fl a) (fl b) = some (fl (a - b)) := by
  obtain ⟨q, _, hq⟩ := read_fl a ha
  obtain ⟨r, _, hr⟩ := read_fl b hb
  show ((double.read (fl a)).sum (double.read (fl b)).opposite).map double.write = _
  rw [hq, hr]
  rw [Int.sub_eq_add_neg] at hc ⊢
  refine sum_data a (-b) q r hc _ _ _ _ (signed_eq a q) (signed_opp b r) ?_
  intro h
  by_cases h1 : a < 0 <;> by_cases h2 : b < 0 <;> simp [h1, h2] <;> omega

theorem fl_mul (a b : Int) (ha : Small a) (hb : Small b) (hc : Small (a * b)) (hs : (decide (a < 0) ^^ decide (b < 0)) = decide (a * b < 0)) : floatBits .mul .f64 (fl a) (fl b) = some (fl (a * b)) := by
  obtain ⟨q, _, hq⟩ := read_fl a ha
  obtain ⟨r, _, hr⟩ := read_fl b hb
  show ((double.read (fl a)).product (double.read (fl b))).map double.write = _
  rw [hq, hr]
  simp only [Datum.product, Option.map_some, hs]
  congr 1
  have e : a.natAbs * 2 ^ q * (b.natAbs * 2 ^ r) = ((a * b) * (2 ^ (q + r) : Nat)).natAbs := by
    rw [mul_pow_abs, Int.natAbs_mul, Nat.pow_add]
    ac_rfl
  rw [e, show -(q : Int) + -(r : Int) = -((q + r : Nat) : Int) by omega]
  exact write_sum _ _ hc _ rfl

theorem fl_mul_nonneg (a b : Int) (h1 : 0 ≤ a) (h2 : 0 ≤ b) (ha : Small a) (hb : Small b) (hc : Small (a * b)) : floatBits .mul .f64 (fl a) (fl b) = some (fl (a * b)) := by
  refine fl_mul a b ha hb hc ?_
  have := Int.mul_nonneg h1 h2
  simp [show ¬ a < 0 by omega, show ¬ b < 0 by omega, show ¬ a * b < 0 by omega]

theorem fl_mul_neg (a b : Int) (h1 : 0 < a) (h2 : b < 0) (ha : Small a) (hb : Small b) (hc : Small (a * b)) : floatBits .mul .f64 (fl a) (fl b) = some (fl (a * b)) := by
  refine fl_mul a b ha hb hc ?_
  have := Int.mul_neg_of_pos_of_neg h1 h2
  simp [show ¬ a < 0 by omega, h2, this]

theorem fl_order (a b : Int) (ha : Small a) (hb : Small b) : double.order (fl a) (fl b) = some (compare a b) := by
  obtain ⟨q, _, hq⟩ := read_fl a ha
  obtain ⟨r, _, hr⟩ := read_fl b hb
  unfold Format.order
  rw [hq, hr]
  have hbm : min (-(q : Int)) (-(r : Int)) = -((max q r : Nat) : Int) := by omega
  have e1 : (-(q : Int) - -((max q r : Nat) : Int)).toNat = max q r - q := by omega
  have e2 : (-(r : Int) - -((max q r : Nat) : Int)).toNat = max q r - r := by omega
  simp only [Datum.order, hbm, e1, e2, signed_eq]
  rw [show q + (max q r - q) = max q r by omega, show r + (max q r - r) = max q r by omega]
  congr 1
  have hp : 0 < 2 ^ (max q r) := Nat.two_pow_pos _
  generalize hP : (2 ^ (max q r) : Nat) = p at *
  have hp' : (0 : Int) < (p : Int) := by omega
  rcases Int.lt_trichotomy a b with h | h | h
  · rw [show compare a b = .lt from by simp [compare, compareOfLessAndEq, h]]
    have := Int.mul_lt_mul_of_pos_right h hp'
    simp [compare, compareOfLessAndEq, this]
  · subst h; simp [compare, compareOfLessAndEq]
  · rw [show compare a b = .gt from by simp [compare, compareOfLessAndEq, show ¬ a < b by omega, show ¬ a = b by omega]]
    have := Int.mul_lt_mul_of_pos_right h hp'
    simp [compare, compareOfLessAndEq, show ¬ a * (p : Int) < b * p by omega, show ¬ a * (p : Int) = b * p by omega]

theorem fl_eql (a b : Int) (ha : Small a) (hb : Small b) : (FloatKind.f64.format.order (fl a) (fl b) == some .eq) = decide (a = b) := by
  show (double.order (fl a) (fl b) == some .eq) = _
  rw [fl_order a b ha hb]
  rcases Int.lt_trichotomy a b with h | h | h
  · simp [compare, compareOfLessAndEq, h, show a ≠ b by omega]
  · subst h; simp [compare, compareOfLessAndEq]
  · simp [compare, compareOfLessAndEq, show ¬ a < b by omega, show a ≠ b by omega]

/-- A whole number's word, cut to a whole number: itself. -/
theorem fl_toInt (z : Int) (h : Small z) (way : Toward) : (double.read (fl z)).toInt way = some z := by
  obtain ⟨q, hq0, hq⟩ := read_fl z h
  rw [hq]
  simp only [Datum.toInt, Datum.integral]
  have e1 : (-(q : Int)).toNat = 0 := by omega
  have e2 : (-(-(q : Int))).toNat = q := by omega
  rw [e1, e2, Nat.shiftLeft_zero]
  have hc : way.cut (decide (z < 0)) (z.natAbs * 2 ^ q) q = z.natAbs := by
    by_cases hz : z.natAbs = 0
    · rw [hz, Nat.zero_mul]
      unfold Toward.cut
      cases way <;> simp [Nat.shiftLeft_eq]
    · apply cut_exact
      rw [log2_mul_pow _ _ (by omega)]
      omega
  rw [hc]
  have := signed_eq z 0 0
  simpa using this

theorem fl_int (z : Int) (h : Small z) (k : IntKind) (h1 : k.min ≤ z) (h2 : z ≤ k.max) : floatToIntVal .f64 (fl z) k = some z := by
  unfold floatToIntVal
  rw [show FloatKind.f64.decode (fl z) = double.read (fl z) from rfl, fl_toInt z h]
  simp [h1, h2]

end Go.Proofs.YtpfpnlhihnfahaaDoor.fl
