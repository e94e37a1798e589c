/- Both splitters side by side; a step of the law SplitPlays. SplitPlays: steps, and what its walk stands on. The records of bytes, in plain words: whole, in pieces, of one byte, of paragraphs. No program is named here. The laws' first lines: chapter 7's first example, over what is asked of the project's Splitter. The calls of package pack's Writer: what each lays. What a Writer hands out; its Text. -/
import Derived.Test.YtpfpnlhihnfahaaDoorParasM
import Derived.Test.YtpfpnlhihnfahaaDoorRefNextM
import Derived.Test.YtpfpnlhihnfahaaDoorBaseM
import Derived.Test.YtpfpnlhihnfahaaDoorFsPlainM
import Derived.Lib.SlBytesConst

namespace Go.Proofs.YtpfpnlhihnfahaaDoor.spl
open Go.RowKit Go.Maps Go.Proofs.YtpfpnlhihnfahaaDoor.sum Go.Proofs.YtpfpnlhihnfahaaDoor.kept Go.Proofs.YtpfpnlhihnfahaaDoor.app Go.Proofs.YtpfpnlhihnfahaaDoor.writer Go.Proofs.YtpfpnlhihnfahaaDoor.clone Go.Proofs.YtpfpnlhihnfahaaDoor.known Go.Proofs.YtpfpnlhihnfahaaDoor.unseal Go.Proofs.YtpfpnlhihnfahaaDoor.snp
set_option linter.unusedVariables false

/-- what is not the project's splitter's, nor the reference's own block -/
def Oth (ρ : Nat → Bool) (r : Nat) : Nat → Prop := fun x => ρ x = false ∧ x ≠ r
/-- both, the project's in state t, the reference's in state u; all that was there in w0 is as it was -/
structure Tw (w0 w : World) (base p r : Nat) (ρ : Nat → Bool) (m : Nat) (t u : SpS) : Prop where
  sp : PSp w base p ρ m t
  rs : Rs (Oth ρ r) w r m u
  nr : ρ r = false
  kp : Kp No w0 w
  b0 : w0.heap.size ≤ base
  br : w0.heap.size ≤ r

section
variable {w0 w w' : World} {base p r m : Nat} {ρ : Nat → Bool} {t u t' u' : SpS} {res : Value} {e : Ending}
theorem Tw.low (h : Tw w0 w base p r ρ m t u) {k : Nat} (hk : k < w0.heap.size) : ρ k = false ∧ k ≠ r := by
  refine ⟨?_, fun e => by have := h.br; omega⟩
  cases hρ : ρ k with
  | false => rfl
  | true => have := (h.sp.low k hρ).1; have := h.b0; omega
theorem Tw.rlt (h : Tw w0 w base p r ρ m t u) : r < w.heap.size := by obtain ⟨_, _, hh⟩ := h.rs; exact hh.lt
theorem Tw.new (h : Tw w0 w base p r ρ m t u) {k : Nat} (hk : w.heap.size ≤ k) : Oth ρ r k := by obtain ⟨_, _, hh⟩ := h.rs; exact hh.up k hk
/-- what turns only others' memory -/
theorem Tw.oth {S : Nat → Prop} (h : Tw w0 w base p r ρ m t u) (hk : Kp S w w') (h1 : ∀ k, ρ k = true → ¬ S k) (h2 : ¬ S r) (h3 : ∀ vh vr, RsAt (Oth ρ r) w r m u vh vr → (u.held ≠ [] → ∀ x o n c, vh = .slice (some ⟨x, o, none⟩) n c → ¬ S x) ∧ (u.rest ≠ [] → ∀ x o n c, vr = .slice (some ⟨x, o, none⟩) n c → ¬ S x)) (h0 : ∀ k, k < w0.heap.size → ¬ S k) : Tw w0 w' base p r ρ m t u := by
  refine ⟨h.sp.kept hk h1, ?_, h.nr, h.kp.trans hk fun i hi e => absurd e (h0 i hi), h.b0, h.br⟩
  obtain ⟨vh, vr, hh⟩ := h.rs
  exact ⟨vh, vr, hh.kept hk h2 (h3 vh vr hh).1 (h3 vh vr hh).2⟩
theorem Tw.no (h : Tw w0 w base p r ρ m t u) (hk : Kp No w w') : Tw w0 w' base p r ρ m t u := h.oth hk (fun _ _ => id) id (fun _ _ _ => ⟨fun _ _ _ _ _ _ => id, fun _ _ _ _ _ _ => id⟩) fun _ _ => id
theorem FrS.oth {ρ' : Nat → Bool} (h : FrS ρ w ρ' w') {k : Nat} (hk : k < w.heap.size) (h1 : Oth ρ r k) : Oth ρ' r k := ⟨h.2 k hk h1.1, h1.2⟩
/-- a call of the project's -/
theorem Tw.call1 (h : Tw w0 w base p r ρ m t u) (hp : SpPost PSp w base p ρ m t' res e w') : e = .returned res ∧ ∃ ρ', Tw w0 w' base p r ρ' m t' u ∧ FrS ρ w ρ' w' := by
  obtain ⟨he, ρ', h1, h2⟩ := hp
  refine ⟨he, ρ', ⟨h1, ?_, h2.2 r h.rlt h.nr, h.kp.trans h2.1 fun i hi e2 => ?_, h.b0, h.br⟩, h2⟩
  · obtain ⟨vh, vr, hh⟩ := h.rs
    have hx : ∀ {v : Value} {bs : List UInt8}, Bs w v bs → bs ≠ [] → ∀ x o n c, v = .slice (some ⟨x, o, none⟩) n c → x < w.heap.size := fun hb hne x o n c e => by
      obtain ⟨a2, c2, e2, -, -, h4⟩ := hb
      obtain ⟨b2, o2, e3, hc⟩ := h4 hne
      rw [e] at e2
      simp only [Value.slice.injEq] at e2
      rw [← e2.1] at e3
      cases e3
      exact World.block_lt_of_cell? w _ (hc 0 (List.length_pos_iff.2 hne))
    have k1 := hh.kept h2.1 (by rw [h.nr]; simp) (fun hne x o n c e e2 => by rw [(hh.ah hne x o n c e).1] at e2; cases e2) (fun hne x o n c e e2 => by rw [(hh.ar hne x o n c e).1] at e2; cases e2)
    refine ⟨vh, vr, k1.c0, k1.c1, k1.c2, k1.c3, k1.c4, k1.warm, k1.held, k1.rest, fun hne x o n c e => h2.oth (hx hh.held hne x o n c e) (hh.ah hne x o n c e), fun hne x o n c e => h2.oth (hx hh.rest hne x o n c e) (hh.ar hne x o n c e), fun e => e.2 rfl, fun k hk => ⟨?_, fun e => by have := k1.lt; omega⟩⟩
    cases hρ : ρ' k with
    | false => rfl
    | true => have := (h1.low k hρ).2; omega
  · have e3 : ρ i = true := e2
    rw [(h.low hi).1] at e3; cases e3
/-- a call of the reference's -/
theorem Tw.call2 (h : Tw w0 w base p r ρ m t u) (hp : RsPost (Oth ρ r) w r m u' res e w') : e = .returned res ∧ Tw w0 w' base p r ρ m t u' ∧ Kp (fun k => k = r) w w' := by
  obtain ⟨he, h1, h2⟩ := hp
  refine ⟨he, ⟨h.sp.kept h2 fun k hk e2 => ?_, h1.out, h.nr, h.kp.trans h2 fun i hi e2 => absurd e2 (h.low hi).2, h.b0, h.br⟩, h2⟩
  rw [e2, h.nr] at hk; cases hk
end

/-- a step -/
structure SR7 where
  what : Int
  x : Value
  bs : List UInt8
  rs : ByteArray
  near : Bool
/-- its separator -/
def rsS (what : Int) (near : Bool) (rs : List UInt8) : List UInt8 := if near = true then sepL ((what.tdiv 9) % 5).toNat else rs
theorem tx_of (s : ByteArray) : tx s.data.toList = s := by
  apply ByteArray.ext
  simp [tx]

set_option maxRecDepth 100000 in
set_option maxHeartbeats 4000000 in
theorem rs_any (w : World) (what : Int) (v : Value) (bs : List UInt8) (rs : ByteArray) (near : Bool) (hb : Bs w v bs) (hq : Sq w) (hw : -9223372036854775808 ≤ what ∧ what ≤ 9223372036854775807) :
    Calls Tryd.prog 12 #[.agg #[.int .i64 what, v, .string rs, .bool near]] w fun e w' => e = .returned (.string (tx (rsS what near rs.data.toList))) ∧ Kp No w w' := by
  obtain ⟨a, c, rfl, -⟩ := id hb
  have hg : 0 < w.heap.size := World.block_lt_of_cell? w _ (hq 0 (by omega))
  cases near with
  | false =>
    have e1 : rsS what false rs.data.toList = rs.data.toList := rfl
    rw [e1, tx_of]
    go_enter Tryd.func12, Tryd.ntmps12
    go_wp2
    go_ret
    exact ⟨rfl, (Kp.refl _ _).alloc _⟩
  | true =>
    obtain ⟨K, hK⟩ : ∃ K : Nat, (what.tdiv 9) % 5 = (K : Int) := ⟨((what.tdiv 9) % 5).toNat, by have := Int.emod_nonneg (what.tdiv 9) (show (5 : Int) ≠ 0 by omega); omega⟩
    have hK5 : K < 5 := by have := Int.emod_lt_of_pos (what.tdiv 9) (show (0 : Int) < 5 by omega); omega
    have e1 : rsS what true rs.data.toList = sepL K := by
      unfold rsS
      rw [if_pos rfl, hK]
      rfl
    rw [e1]
    have hcell := fun o => (((Kp.refl No w).alloc o)).cell' (hq K hK5) id
    have hk0 : (0 : Int) ≤ (K : Int) := Int.natCast_nonneg _
    have hki : (K : Int) < 5 := by omega
    have HPk := Hid_mk fun W => turned.pick_any (what.tdiv 9) 5 (by omega) (by omega) W
    have hwr : IntKind.i64.wrap (what.tdiv 9) = what.tdiv 9 := IntWalk.i64_in _ (by have h1 : (what.tdiv 9).natAbs = what.natAbs / 9 := Int.natAbs_tdiv what 9; omega)
    clear hq hb
    go_enter Tryd.func12, Tryd.ntmps12
    go_wp2_with fail
    with_reducible refine (HPk.out _).mono ?_
    rintro e w' ⟨rfl, rfl⟩
    rw [hK]
    go_wp2
    go_ret
    exact ⟨rfl, (Kp.refl _ _).alloc _⟩

end Go.Proofs.YtpfpnlhihnfahaaDoor.spl

namespace Go.Proofs.YtpfpnlhihnfahaaDoor.spl
open Go.RowKit Go.Maps Go.Proofs.YtpfpnlhihnfahaaDoor.sum Go.Proofs.YtpfpnlhihnfahaaDoor.kept Go.Proofs.YtpfpnlhihnfahaaDoor.app Go.Proofs.YtpfpnlhihnfahaaDoor.writer Go.Proofs.YtpfpnlhihnfahaaDoor.clone Go.Proofs.YtpfpnlhihnfahaaDoor.known Go.Proofs.YtpfpnlhihnfahaaDoor.unseal Go.Proofs.YtpfpnlhihnfahaaDoor.snp
set_option linter.unusedVariables false

/-- read: a slice of steps -/
def Sts7 (w : World) (v : Value) (l : List SR7) : Prop :=
  (∃ a cap, v = .slice a l.length cap ∧ l.length ≤ cap ∧ cap ≤ maxLen ∧ (l ≠ [] → ∃ b o, a = some ⟨b, o, none⟩ ∧ ∀ k (h : k < l.length), w.cell? ⟨b, o + k * 4, none⟩ = some (.int .i64 l[k].what) ∧
    w.cell? ⟨b, o + k * 4 + 1, none⟩ = some l[k].x ∧ w.cell? ⟨b, o + k * 4 + 2, none⟩ = some (.string l[k].rs) ∧ w.cell? ⟨b, o + k * 4 + 3, none⟩ = some (.bool l[k].near))) ∧
    ∀ s ∈ l, Bs w s.x s.bs ∧ s.bs.length ≤ 1048576 ∧ -9223372036854775808 ≤ s.what ∧ s.what ≤ 9223372036854775807
/-- a step on its own -/
structure XS (w : World) (q : Nat) (what : Int) (v : Value) (bs : List UInt8) (rs : ByteArray) (near : Bool) : Prop where
  c0 : w.cell? ⟨q, 0, none⟩ = some (.int .i64 what)
  c1 : w.cell? ⟨q, 1, none⟩ = some v
  c2 : w.cell? ⟨q, 2, none⟩ = some (.string rs)
  c3 : w.cell? ⟨q, 3, none⟩ = some (.bool near)
  byt : Bs w v bs
theorem XS.kept {S : Nat → Prop} {w w' : World} {q : Nat} {what : Int} {v : Value} {bs : List UInt8} {rs : ByteArray} {near : Bool} (h : XS w q what v bs rs near) (hk : Kp S w w') (hq : ¬ S q) (hv : bs ≠ [] → ∀ x o n c, v = .slice (some ⟨x, o, none⟩) n c → ¬ S x) : XS w' q what v bs rs near :=
  ⟨hk.cell' h.c0 hq, hk.cell' h.c1 hq, hk.cell' h.c2 hq, hk.cell' h.c3 hq, bs_keptE' h.byt hk hv⟩
theorem bs_lt {w : World} {v : Value} {bs : List UInt8} (hb : Bs w v bs) (hne : bs ≠ []) (x o n c : Nat) (e : v = .slice (some ⟨x, o, none⟩) n c) : x < w.heap.size := by
  obtain ⟨a2, c2, e2, -, -, h4⟩ := hb
  obtain ⟨b2, o2, e3, hc⟩ := h4 hne
  rw [e] at e2
  simp only [Value.slice.injEq] at e2
  rw [← e2.1] at e3
  cases e3
  exact World.block_lt_of_cell? w _ (hc 0 (List.length_pos_iff.2 hne))
theorem owns_warm' {w : World} {base : Nat} {e : TypeId} {size : Nat} {v : Value} {n : Nat} {xs : List Value} (h : w.ownsRow base e size v n xs) : ∀ g, v.ownBlock = some g → ∀ j, w.frozen? ⟨g, j, none⟩ = false := by
  intro g hg j
  rcases h.2 with ⟨rfl, _⟩ | ⟨g', cap, cur, rfl, _, hb, _⟩
  · cases hg
  · simp [Value.ownBlock] at hg
    subst hg
    simp [World.frozen?, hb]
/-- the law's own bytes, written over -/
def ZRel (w1 : World) (v : Value) (n : Nat) (i : Value) (wr : World) : Prop :=
  ∃ (k : Nat) (ys : List UInt8), k ≤ n ∧ i = .int .i64 k ∧ ys.length = n ∧ Bs wr v ys ∧ (∀ g, v.ownBlock = some g → ∀ j, wr.frozen? ⟨g, j, none⟩ = false) ∧ Kp (fun k => v.ownBlock = some k) w1 wr
theorem Tw.set4 {w0 w : World} {base p r m : Nat} {ρ : Nat → Bool} {t u : SpS} {v : Value} {bs : List UInt8} (h : Tw w0 w base p r ρ m t u) (hb : Bs w v bs) (ho : bs ≠ [] → ∀ x o n c, v = .slice (some ⟨x, o, none⟩) n c → Oth ρ r x) : Tw w0 (w.setCell ⟨r, 4, none⟩ v) base p r ρ m t { u with rest := bs } := by
  obtain ⟨vh, vr, hh⟩ := h.rs
  refine ⟨h.sp.kept ((Kp.refl (fun k => k = r) w).setCell (p := ⟨r, 4, none⟩) (fun _ => rfl) v) fun k hk e => ?_, ⟨vh, v, hh.set4 hb ho⟩, h.nr, h.kp.setCell (p := ⟨r, 4, none⟩) (fun hlt => ?_) v, h.b0, h.br⟩
  · rw [e, h.nr] at hk; cases hk
  · have := h.br
    simp only at hlt
    omega
/-- at the loop's head -/
def PlRel (w : World) (base p r m n : Nat) (iv : Value) (wr : World) : Prop :=
  ∃ (k : Nat) (ρ : Nat → Bool) (t : SpS), iv = .int .i64 (k : Int) ∧ k ≤ n ∧ k ≤ 150 ∧ Tw w wr base p r ρ m t t ∧ OkS m t ∧ t.rest.length ≤ k * 1048577

theorem goS_rest (m : Nat) (rs : List UInt8) : ∀ (r : List UInt8) (s : SpS), (goS m rs r s).2.rest.length ≤ r.length
  | [], s => Nat.zero_le _
  | b :: r, s => by
    rw [goS_cons]
    split
    · show (lookS m rs { s with rest := r } b).2.rest.length ≤ _
      rw [lookS_rest]
      simp
    · have := goS_rest m rs r (lookS m rs { s with rest := r } b).2
      simp
      omega
theorem nextS_rest (m : Nat) (rs : List UInt8) (s : SpS) : (nextS m rs s).2.rest.length ≤ s.rest.length + 1 := by
  unfold nextS
  refine Nat.le_trans (goS_rest m rs _ _) ?_
  unfold readyS
  split <;> simp
theorem lastS_rest (m : Nat) (rs : List UInt8) (s : SpS) : (lastS m rs s).2.rest.length ≤ s.rest.length + 1 := by
  have h := nextS_rest m rs s
  unfold lastS
  obtain ⟨A, hA⟩ : ∃ A, nextS m rs s = A := ⟨_, rfl⟩
  rw [hA] at h ⊢
  obtain ⟨a, t⟩ := A
  cases a with
  | some r => exact h
  | none =>
    show (if t.held = [] ∧ t.over = false then (none, t) else (some t.held, endS t)).2.rest.length ≤ _
    split
    · exact h
    · exact h

end Go.Proofs.YtpfpnlhihnfahaaDoor.spl

namespace Go.Proofs.YtpfpnlhihnfahaaDoor.spl
set_option linter.unusedVariables false

/-- looked at, with nothing left -/
def dryR (s : SpS) : SpS := { s with rest := [] }
theorem next_some {m : Nat} {rs : List UInt8} {s t : SpS} {x : List UInt8} (hd : DryS rs s) (h : nextS m rs s = (some x, t)) :
    (eatS m rs s.rest (dryR s)).1 = x :: (eatS m rs t.rest (dryR t)).1 ∧ (eatS m rs s.rest (dryR s)).2 = (eatS m rs t.rest (dryR t)).2 ∧ t.rest.length < s.rest.length ∧ DryS rs t := by
  unfold nextS at h
  rw [readyS_dry hd] at h
  obtain ⟨h1, h2⟩ := goS_eat m rs s.rest s
  have h3 := goS_less m rs s.rest s
  have h4 := goS_dry (m := m) s.rest hd
  rw [h] at h1 h2 h3 h4
  simp only at h1 h2
  refine ⟨?_, (congrArg Prod.snd h2).symm, h3 x rfl, h4⟩
  have e : (eatS m rs t.rest (dryR t)).1 = (eatS m rs s.rest (dryR s)).1.tail := congrArg Prod.fst h2
  rw [e]
  show (eatS m rs s.rest (dryR s)).1 = _
  have h1' : some x = (eatS m rs s.rest (dryR s)).1.head? := h1
  cases hl : (eatS m rs s.rest (dryR s)).1 with
  | nil => rw [hl] at h1'; cases h1'
  | cons y r => rw [hl] at h1'; simp at h1'; subst h1'; rfl
theorem next_none {m : Nat} {rs : List UInt8} {s t : SpS} (hd : DryS rs s) (h : nextS m rs s = (none, t)) : eatS m rs s.rest (dryR s) = ([], t) ∧ t.rest = [] ∧ DryS rs t := by
  unfold nextS at h
  rw [readyS_dry hd] at h
  obtain ⟨h1, -⟩ := goS_eat m rs s.rest s
  have h3 := goS_none m rs s.rest s
  have h4 := goS_dry (m := m) s.rest hd
  rw [h] at h1 h3 h4
  have e2 : t = (eatS m rs s.rest (dryR s)).2 := h3 rfl
  have hr : t.rest = [] := by rw [e2]; exact eatS_rest m rs s.rest (dryR s) rfl
  refine ⟨Prod.ext ?_ e2.symm, hr, h4⟩
  have h1' : none = (eatS m rs s.rest (dryR s)).1.head? := h1
  cases hl : (eatS m rs s.rest (dryR s)).1 with
  | nil => rfl
  | cons y r => rw [hl] at h1'; cases h1'
/-- nothing is left: what Rest tells -/
theorem last_dry {m : Nat} {rs : List UInt8} {s : SpS} (hd : DryS rs s) (hr : s.rest = []) : lastS m rs s = if s.held = [] ∧ s.over = false then (none, s) else (some s.held, endS s) := by
  have hn : nextS m rs s = (none, s) := by
    unfold nextS
    rw [readyS_dry hd, hr]
    show (none, { s with rest := [] }) = _
    rw [← hr]
  unfold lastS
  rw [hn]
  rfl
/-- all records, with what follows the last one's end -/
def tailS (t : SpS) : List (List UInt8) := if t.held = [] ∧ t.over = false then [] else [t.held]
def recsS (m : Nat) (rs b : List UInt8) : List (List UInt8) := (eatS m rs b zeroS).1 ++ tailS (eatS m rs b zeroS).2

/-- of one byte: the state behind i bytes, of which the record under way began at f -/
def cutB (m : Nat) (b : List UInt8) (f i : Nat) : SpS := ⟨((b.take i).drop f).take m, decide (m < i - f), false, []⟩
theorem look_end (m : Nat) (c : UInt8) (s : SpS) : lookS m [c] s c = (true, s) := if_pos rfl
theorem look_put (m : Nat) {c x : UInt8} (h : x ≠ c) (s : SpS) : lookS m [c] s x = (false, putS m s x) := if_neg h
theorem eat_one_end (m : Nat) (c : UInt8) (s : SpS) : eatS m [c] [c] s = ([s.held], endS s) := by
  rw [eatS_cons, look_end, if_pos rfl]
  rfl
theorem eat_one_put (m : Nat) {c x : UInt8} (h : x ≠ c) (s : SpS) : eatS m [c] [x] s = ([], putS m s x) := by
  rw [eatS_cons, look_put m h, if_neg (by simp)]
  rfl
theorem cutB_put {m : Nat} {b : List UInt8} {f i : Nat} (hf : f ≤ i) (hi : i < b.length) : putS m (cutB m b f i) b[i] = cutB m b f (i + 1) := by
  have e : (b.take (i + 1)).drop f = (b.take i).drop f ++ [b[i]] := by
    rw [List.take_succ_eq_append_getElem hi, List.drop_append_of_le_length (by simp; omega)]
  have hl : ((b.take i).drop f).length = i - f := by simp; omega
  unfold putS cutB
  simp only [List.length_take, hl]
  rw [e]
  by_cases h : i - f < m
  · have t1 : ((b.take i).drop f).take m = (b.take i).drop f := List.take_of_length_le (by rw [hl]; omega)
    have t2 : ((b.take i).drop f ++ [b[i]]).take m = (b.take i).drop f ++ [b[i]] := List.take_of_length_le (by simp only [List.length_append, hl, List.length_singleton]; omega)
    have d1 : decide (m < i - f) = decide (m < i + 1 - f) := by simp only [decide_eq_decide]; omega
    rw [t1, t2, if_pos (by omega), d1]
  · have t2 : ((b.take i).drop f ++ [b[i]]).take m = ((b.take i).drop f).take m := List.take_append_of_le_length (by rw [hl]; omega)
    have d1 : decide (m < i + 1 - f) = true := by simp only [decide_eq_true_eq]; omega
    rw [t2, if_neg (by omega), d1]
theorem cutB_end (m : Nat) (b : List UInt8) (f i : Nat) : endS (cutB m b f i) = cutB m b (i + 1) (i + 1) := by
  have : (b.take (i + 1)).drop (i + 1) = [] := List.drop_eq_nil_of_le (by simp; omega)
  unfold endS cutB
  rw [this]
  simp
theorem cutB_zero (m : Nat) (b : List UInt8) : cutB m b 0 0 = zeroS := by simp [cutB, zeroS]
/-- the law's loop: behind i bytes -/
theorem byte_next {m : Nat} {b : List UInt8} {c : UInt8} {f i : Nat} {out : List (List UInt8)} (hf : f ≤ i) (hi : i < b.length) (h : eatS m [c] (b.take i) zeroS = (out, cutB m b f i)) :
    eatS m [c] (b.take (i + 1)) zeroS = if b[i] = c then (out ++ [((b.take i).drop f).take m], cutB m b (i + 1) (i + 1)) else (out, cutB m b f (i + 1)) := by
  rw [List.take_succ_eq_append_getElem hi, eatS_append, h]
  simp only
  split
  · next e =>
    rw [e, eat_one_end]
    show (out ++ [(cutB m b f i).held], endS (cutB m b f i)) = _
    rw [cutB_end]
    rfl
  · next e =>
    rw [eat_one_put m e, cutB_put hf hi]
    simp
theorem byte_tail {m : Nat} {b : List UInt8} {f : Nat} (hm : 1 ≤ m) (hf : f ≤ b.length) : tailS (cutB m b f b.length) = if f < b.length then [(b.drop f).take m] else [] := by
  unfold tailS cutB
  rw [List.take_length]
  by_cases h : f < b.length
  · rw [if_pos h, if_neg]
    rintro ⟨h1, -⟩
    have := congrArg List.length h1
    simp at this
    omega
  · rw [if_neg h, if_pos]
    refine ⟨?_, ?_⟩
    · rw [List.drop_eq_nil_of_le (by omega)]; simp
    · simp; omega

/-- a paragraph: not empty, a line feed at neither end, no two in a row -/
def noTwo : List UInt8 → Bool
  | a :: b :: r => !(a == 10 && b == 10) && noTwo (b :: r)
  | _ => true
def ParaB (x : List UInt8) : Prop := x ≠ [] ∧ x.head? ≠ some 10 ∧ x.getLast? ≠ some 10 ∧ noTwo x = true
theorem noTwo_snoc : ∀ (x : List UInt8) (b : UInt8), noTwo x = true → (b ≠ 10 ∨ x.getLast? ≠ some 10) → noTwo (x ++ [b]) = true
  | [], b, _, _ => rfl
  | [a], b, h, h2 => by
    show (!(a == 10 && b == 10) && true) = true
    rcases h2 with h2 | h2
    · simp [h2]
    · have : a ≠ 10 := fun e => h2 (by rw [e]; rfl)
      simp [this]
  | a :: c :: r, b, h, h2 => by
    have h' : (!(a == 10 && c == 10) && noTwo (c :: r)) = true := h
    simp only [Bool.and_eq_true] at h'
    show (!(a == 10 && c == 10) && noTwo ((c :: r) ++ [b])) = true
    rw [noTwo_snoc (c :: r) b h'.2 (by simpa [List.getLast?_cons] using h2), h'.1]
    rfl
/-- the record under way: a paragraph, or nothing; nothing waits behind nothing -/
def WayP (m : Nat) (s : SpS) (n : Nat) : Prop := (s.held = [] ∨ ParaB s.held) ∧ (s.waits = true → s.held ≠ []) ∧ s.over = false ∧ s.held.length + (if s.waits = true then 1 else 0) ≤ n
def text10 (x : List UInt8) : List UInt8 := x.filter fun b => b != 10
theorem text10_append (x y : List UInt8) : text10 (x ++ y) = text10 x ++ text10 y := List.filter_append ..

theorem para_snoc {x : List UInt8} {b : UInt8} (h : x = [] ∨ ParaB x) (hb : b ≠ 10) : ParaB (x ++ [b]) := by
  refine ⟨by simp, ?_, by simp [hb], ?_⟩
  · rcases h with rfl | h
    · simp [hb]
    · cases x with
      | nil => exact absurd rfl h.1
      | cons a r => exact h.2.1
  · rcases h with rfl | h
    · rfl
    · exact noTwo_snoc x b h.2.2.2 (.inl hb)
theorem para_snoc2 {x : List UInt8} {b : UInt8} (h : ParaB x) (hb : b ≠ 10) : ParaB (x ++ [10] ++ [b]) := by
  refine ⟨by simp, ?_, by simp [hb], ?_⟩
  · cases x with
    | nil => exact absurd rfl h.1
    | cons a r => exact h.2.1
  · exact noTwo_snoc _ b (noTwo_snoc x 10 h.2.2.2 (.inr h.2.2.1)) (.inl hb)

/-- one byte, by paragraphs -/
theorem way_next {m n : Nat} {s : SpS} (h : WayP m s n) (hn : n < m) (b : UInt8) :
    (lookS m [] s b).1 = true ∧ ParaB (lookS m [] s b).2.held ∧ WayP m (endS (lookS m [] s b).2) (n + 1) ∧ text10 (lookS m [] s b).2.held = text10 s.held ∧ b = 10 ∨
    (lookS m [] s b).1 = false ∧ WayP m (lookS m [] s b).2 (n + 1) ∧ text10 (lookS m [] s b).2.held = text10 s.held ++ text10 [b] := by
  obtain ⟨h1, h2, h3, h4⟩ := h
  unfold lookS
  simp only
  by_cases hb : b = 10
  · subst hb
    rw [if_pos rfl]
    by_cases hw : s.waits = true
    · rw [if_pos hw]
      refine .inl ⟨rfl, ?_, ⟨.inl rfl, (fun h => by cases h), rfl, Nat.zero_le _⟩, rfl, rfl⟩
      rcases h1 with h1 | h1
      · exact absurd h1 (h2 hw)
      · exact h1
    · rw [if_neg hw]
      refine .inr ⟨rfl, ⟨h1, fun h => ?_, h3, ?_⟩, by simp [text10]⟩
      · intro e
        have : (!s.held.isEmpty) = true := h
        rw [e] at this; cases this
      · show s.held.length + (if (!s.held.isEmpty) = true then 1 else 0) ≤ n + 1
        split <;> omega
  · rw [if_neg hb]
    by_cases hw : s.waits = true
    · have hp : ParaB s.held := by
        rcases h1 with h1 | h1
        · exact absurd h1 (h2 hw)
        · exact h1
      rw [if_pos hw] at h4
      have e1 : wakeS m s = { s with held := s.held ++ [10], waits := false } := by
        unfold wakeS putS
        rw [if_pos hw, if_pos (by omega)]
      have e2 : putS m (wakeS m s) b = { s with held := s.held ++ [10] ++ [b], waits := false } := by
        rw [e1]
        unfold putS
        rw [if_pos (by simp; omega)]
      rw [e2]
      refine .inr ⟨rfl, ⟨.inr (para_snoc2 hp hb), (fun h => by cases h), h3, ?_⟩, ?_⟩
      · simp; omega
      · show text10 (s.held ++ [10] ++ [b]) = _
        rw [text10_append, text10_append]
        simp [text10]
    · have e1 : wakeS m s = s := by unfold wakeS; rw [if_neg hw]
      rw [if_neg hw] at h4
      have e2 : putS m (wakeS m s) b = { s with held := s.held ++ [b] } := by
        rw [e1]
        unfold putS
        rw [if_pos (by omega)]
      rw [e2]
      refine .inr ⟨rfl, ⟨.inr (para_snoc h1 hb), (fun h => absurd h hw), h3, ?_⟩, text10_append _ _⟩
      simp only [hw, List.length_append, List.length_singleton]
      simp
      omega
theorem way_eat {m : Nat} : ∀ (b : List UInt8) {s : SpS} {n : Nat}, WayP m s n → n + b.length ≤ m →
    (∀ x ∈ (eatS m [] b s).1, ParaB x) ∧ WayP m (eatS m [] b s).2 (n + b.length) ∧ text10 ((eatS m [] b s).1.flatten ++ (eatS m [] b s).2.held) = text10 (s.held ++ b)
  | [], s, n, h, _ => ⟨(fun x hx => by cases hx), h, by simp [eatS]⟩
  | b :: r, s, n, h, hl => by
    simp only [List.length_cons] at hl
    rw [eatS_cons]
    rcases way_next h (by omega) b with ⟨h1, h2, h3, h4, h5⟩ | ⟨h1, h3, h4⟩
    · obtain ⟨g1, g2, g3⟩ := way_eat r h3 (by omega)
      rw [if_pos h1]
      refine ⟨fun x hx => ?_, by simp only [List.length_cons]; rw [show n + (r.length + 1) = n + 1 + r.length by omega]; exact g2, ?_⟩
      · rcases List.mem_cons.1 hx with rfl | hx
        · exact h2
        · exact g1 x hx
      · simp only [List.flatten_cons, List.append_assoc]
        rw [text10_append, g3, h4]
        show text10 s.held ++ text10 ([] ++ r) = _
        rw [h5, text10_append s.held]
        simp [text10]
    · obtain ⟨g1, g2, g3⟩ := way_eat r h3 (by omega)
      rw [if_neg (by rw [h1]; simp)]
      refine ⟨g1, by simp only [List.length_cons]; rw [show n + (r.length + 1) = n + 1 + r.length by omega]; exact g2, ?_⟩
      rw [g3, text10_append, h4, List.append_assoc, ← text10_append [b] r, ← text10_append]
      rfl
theorem paras_recs {m : Nat} {b : List UInt8} (hl : b.length ≤ m) : (∀ x ∈ recsS m [] b, ParaB x) ∧ text10 (recsS m [] b).flatten = text10 b := by
  have hz : WayP m zeroS 0 := ⟨.inl rfl, (fun h => by cases h), rfl, Nat.zero_le _⟩
  obtain ⟨g1, g2, g3⟩ := way_eat b hz (by omega)
  unfold recsS tailS
  split
  · next h =>
    rw [List.append_nil]
    rw [h.1, List.append_nil] at g3
    exact ⟨g1, g3⟩
  · next h =>
    refine ⟨fun x hx => ?_, ?_⟩
    · rcases List.mem_append.1 hx with hx | hx
      · exact g1 x hx
      · rw [List.mem_singleton.1 hx]
        rcases g2.1 with e | e
        · exact absurd ⟨e, g2.2.2.1⟩ h
        · exact e
    · rw [List.flatten_append]
      simp only [List.flatten_cons, List.flatten_nil, List.append_nil]
      exact g3

end Go.Proofs.YtpfpnlhihnfahaaDoor.spl

namespace Go.Proofs.YtpfpnlhihnfahaaDoor.spl
open Go.RowKit Go.Maps Go.Proofs.YtpfpnlhihnfahaaDoor.sum Go.Proofs.YtpfpnlhihnfahaaDoor.kept Go.Proofs.YtpfpnlhihnfahaaDoor.app Go.Proofs.YtpfpnlhihnfahaaDoor.writer Go.Proofs.YtpfpnlhihnfahaaDoor.clone Go.Proofs.YtpfpnlhihnfahaaDoor.known Go.Proofs.YtpfpnlhihnfahaaDoor.unseal Go.Proofs.YtpfpnlhihnfahaaDoor.snp
set_option linter.unusedVariables false

def spOf (h : List UInt8) (o : Bool) (r : List UInt8) : SpS := ⟨h, o, false, r⟩

section
variable {Sp : SpT} {w w1 : World} {base p m : Nat} {ρ : Nat → Bool} {s t : SpS}
/-- a call beside a world that is let be -/
theorem SplitC.step (C : SplitC Sp) (hs : Sp w1 base p ρ m s) (hk : Kp No w w1) (hb : w.heap.size ≤ base) {f : FuncId} {args : Array Value} {res : Value} (h : Calls Tryd.prog f args w1 (SpPost Sp w1 base p ρ m t res)) :
    Calls Tryd.prog f args w1 fun e w2 => e = .returned res ∧ Hid ((∃ ρ', Sp w2 base p ρ' m t) ∧ Kp No w w2) := by
  refine h.mono ?_
  rintro e w2 ⟨he, ρ', h1, h2⟩
  exact ⟨he, Hid_mk ⟨⟨ρ', h1⟩, hk.trans h2.1 fun i hi e2 => by have := (C.low hs i e2).1; omega⟩⟩
theorem SplitC.new_low (C : SplitC Sp) (hs : Sp w1 base p ρ m s) {k : Nat} (hk : w1.heap.size ≤ k) : ρ k = false := by
  cases hρ : ρ k with
  | false => rfl
  | true => have := (C.low hs k hρ).2; omega
end

set_option maxRecDepth 100000 in
set_option maxHeartbeats 4000000 in
theorem splitknown_any {Sp : SpT} (C : SplitC Sp) (w : World) : Calls Tryd.prog 8 #[] w fun e w' => e = .returned (.bool true) ∧ Kp No w w' := by
  have kc := fun (w : World) (D : Array Value) (n c : Nat) => Lib.run_convert_bytes_const (P := Tryd.prog) w 30 5 D n c Tryd.underlying30 Tryd.underlying5
  have HN := Hid_mk (show Calls Tryd.prog 7 #[.int .i64 4] w _ from C.new_ok w 4 (by omega) (by omega))
  go_enter Tryd.func8, Tryd.ntmps8
  go_wp2_with fail
  with_reducible refine HN.out.mono ?_
  rintro e w1 ⟨p, ρ1, rfl, hs1, hk1⟩
  have HS1 := Hid_mk hs1
  have HK1 := Hid_mk hk1
  clear HN hs1 hk1
  have kk1 : Kp No w1 (w1.alloc (.cells #[.int .u8 97, .int .u8 98] 5 (2, 3))) := (Kp.refl _ _).alloc _
  have HF1 : Hid (Calls Tryd.prog 10 #[.pointer (some ⟨p, 0, none⟩), .slice (some ⟨w1.heap.size, 0, none⟩) 2 2] (w1.alloc (.cells #[.int .u8 97, .int .u8 98] 5 (2, 3))) fun e w2 => e = .returned (.tuple #[]) ∧ Hid ((∃ ρ', Sp w2 w.heap.size p ρ' 4 (spOf [] false [97, 98])) ∧ Kp No w w2)) :=
    Hid_mk (C.step (C.no HS1.out kk1) (HK1.out.trans' kk1) (Nat.le_refl _) (C.feed _ w.heap.size p ρ1 4 zeroS _ [97, 98] (C.no HS1.out kk1) (bs_lit w1 [97, 98] (2, 3) (by decide)) (fun _ x o n c e => by cases e; exact C.new_low HS1.out (Nat.le_refl _)) (by decide)))
  go_wp2_with fail
  with_reducible refine HF1.out.mono ?_
  rintro e w2 ⟨rfl, H2⟩
  obtain ⟨⟨ρ2, hs2⟩, hk2⟩ := H2.out
  have HX2 : Hid (Calls Tryd.prog 11 #[.pointer (some ⟨p, 0, none⟩), .string ⟨#[10]⟩] w2 fun e w3 => e = .returned (.tuple #[.string ⟨#[]⟩, .bool false]) ∧ Hid ((∃ ρ', Sp w3 w.heap.size p ρ' 4 (spOf [97, 98] false [])) ∧ Kp No w w3)) :=
    Hid_mk (C.step hs2 hk2 (Nat.le_refl _) (C.next w2 w.heap.size p ρ2 4 _ [10] hs2 (by show 0 ≤ 4; omega) (by omega) (by decide) (by decide)))
  clear hs2 hk2 H2 HF1 kk1 HS1
  go_wp2_with fail
  with_reducible refine HX2.out.mono ?_
  rintro e w3 ⟨rfl, H3⟩
  obtain ⟨⟨ρ3, hs3⟩, hk3⟩ := H3.out
  have kk3 : Kp No w3 (w3.alloc (.cells #[.int .u8 99, .int .u8 10, .int .u8 100] 5 (3, 4))) := (Kp.refl _ _).alloc _
  have HF4 : Hid (Calls Tryd.prog 10 #[.pointer (some ⟨p, 0, none⟩), .slice (some ⟨w3.heap.size, 0, none⟩) 3 3] (w3.alloc (.cells #[.int .u8 99, .int .u8 10, .int .u8 100] 5 (3, 4))) fun e w4 => e = .returned (.tuple #[]) ∧ Hid ((∃ ρ', Sp w4 w.heap.size p ρ' 4 (spOf [97, 98] false [99, 10, 100])) ∧ Kp No w w4)) :=
    Hid_mk (C.step (C.no hs3 kk3) (hk3.trans' kk3) (Nat.le_refl _) (C.feed _ w.heap.size p ρ3 4 _ _ [99, 10, 100] (C.no hs3 kk3) (bs_lit w3 [99, 10, 100] (3, 4) (by decide)) (fun _ x o n c e => by cases e; exact C.new_low hs3 (Nat.le_refl _)) (by decide)))
  clear hs3 hk3 kk3 H3
  go_wp2_with fail
  with_reducible refine HF4.out.mono ?_
  rintro e w4 ⟨rfl, H4⟩
  obtain ⟨⟨ρ4, hs4⟩, hk4⟩ := H4.out
  clear HF4 H4
  have HX5 : Hid (Calls Tryd.prog 11 #[.pointer (some ⟨p, 0, none⟩), .string ⟨#[10]⟩] w4 fun e w5 => e = .returned (.tuple #[.string ⟨#[97, 98, 99]⟩, .bool true]) ∧ Hid ((∃ ρ', Sp w5 w.heap.size p ρ' 4 (spOf [] false [100])) ∧ Kp No w w5)) :=
    Hid_mk (C.step hs4 hk4 (Nat.le_refl _) (C.next w4 w.heap.size p ρ4 4 _ [10] hs4 (by unfold OkS spOf; decide) (by omega) (by decide) (by decide)))
  go_wp2_with fail
  with_reducible refine HX5.out.mono ?_
  rintro e w5 ⟨rfl, H5⟩
  obtain ⟨⟨ρ5, hs5⟩, hk5⟩ := H5.out
  clear HX5 hs4 hk4 H5
  have HX6 : Hid (Calls Tryd.prog 11 #[.pointer (some ⟨p, 0, none⟩), .string ⟨#[10]⟩] w5 fun e w6 => e = .returned (.tuple #[.string ⟨#[]⟩, .bool false]) ∧ Hid ((∃ ρ', Sp w6 w.heap.size p ρ' 4 (spOf [100] false [])) ∧ Kp No w w6)) :=
    Hid_mk (C.step hs5 hk5 (Nat.le_refl _) (C.next w5 w.heap.size p ρ5 4 _ [10] hs5 (by unfold OkS spOf; decide) (by omega) (by decide) (by decide)))
  go_wp2_with fail
  with_reducible refine HX6.out.mono ?_
  rintro e w6 ⟨rfl, H6⟩
  obtain ⟨⟨ρ6, hs6⟩, hk6⟩ := H6.out
  clear HX6 hs5 hk5 H6
  have HX7 : Hid (Calls Tryd.prog 14 #[.pointer (some ⟨p, 0, none⟩), .string ⟨#[10]⟩] w6 fun e w7 => e = .returned (.tuple #[.string ⟨#[100]⟩, .bool true]) ∧ Hid ((∃ ρ', Sp w7 w.heap.size p ρ' 4 (spOf [] false [])) ∧ Kp No w w7)) :=
    Hid_mk (C.step hs6 hk6 (Nat.le_refl _) (C.last w6 w.heap.size p ρ6 4 _ [10] hs6 (by unfold OkS spOf; decide) (by omega) (by decide) (by decide)))
  go_wp2_with fail
  with_reducible refine HX7.out.mono ?_
  rintro e w7 ⟨rfl, H7⟩
  obtain ⟨⟨ρ7, hs7⟩, hk7⟩ := H7.out
  clear HX7 hs6 hk6 H7
  have HX8 : Hid (Calls Tryd.prog 14 #[.pointer (some ⟨p, 0, none⟩), .string ⟨#[10]⟩] w7 fun e w8 => e = .returned (.tuple #[.string ⟨#[]⟩, .bool false]) ∧ Hid ((∃ ρ', Sp w8 w.heap.size p ρ' 4 (spOf [] false [])) ∧ Kp No w w8)) :=
    Hid_mk (C.step hs7 hk7 (Nat.le_refl _) (C.last w7 w.heap.size p ρ7 4 _ [10] hs7 (by unfold OkS spOf; decide) (by omega) (by decide) (by decide)))
  go_wp2_with fail
  with_reducible refine HX8.out.mono ?_
  rintro e w8 ⟨rfl, H8⟩
  obtain ⟨⟨ρ8, hs8⟩, hk8⟩ := H8.out
  clear HX8 hs7 hk7 H8
  have HK8 := Hid_mk hk8
  clear hs8 hk8
  go_wp2
  go_ret
  exact ⟨rfl, HK8.out⟩

end Go.Proofs.YtpfpnlhihnfahaaDoor.spl

namespace Go.Proofs.YtpfpnlhihnfahaaDoor.writer
open Go.RowKit Go.Proofs.YtpfpnlhihnfahaaDoor.sum Go.Proofs.YtpfpnlhihnfahaaDoor.kept Go.Proofs.YtpfpnlhihnfahaaDoor.app
set_option linter.unusedVariables false

set_option maxHeartbeats 1000000 in
theorem byte_any (base p : Nat) (w : World) (v : Value) (bs : List UInt8) (x : UInt8) (h : Wr base w p v bs) (hl : bs.length < 140737488355328) :
    Calls Tryd.prog 37 #[.pointer (some ⟨p, 0, none⟩), .int .u8 (x.toNat : Int)] w (WrPost base p v (bs ++ [x]) w) := by
  have hcell := h.cell
  have hwarm := h.warm
  have H := Hid_mk h
  have hroom := h.room
  go_enter Tryd.func37, Tryd.ntmps37
  go_wp2_with (at_builtin; (refine wpList_append_bs _ rfl _ _ rfl base _ bs rfl (H.out.owns.alloc _) _ [x] rfl (bs_one w x) ?c1 ?c2 ?_))
  case c1 => simp; omega
  case c2 => simp; omega
  · intro v' w1 happ
    have hp := World.block_lt_of_cell? w _ hcell
    have kp : Kp (fun k => some k = v.ownBlock) w w1 := app_kept happ fun k _ e => e.symm
    have hc1 : w1.cell? ⟨p, 0, none⟩ = some v := kp.cell' hcell (fun e => h.apart e.symm)
    have hf1 : w1.frozen? ⟨p, 0, none⟩ = false := (kp.frozen hp (fun e => h.apart e.symm)).trans hwarm
    have hfin := wr_store h (Nat.le_trans hroom kp.size) happ.1 kp (app_fresh happ)
    have HF := Hid_mk hfin
    obtain ⟨g, cap, rfl, hg1, hg2⟩ := owns_some happ.1 (by simp)
    rw [show (bs ++ [x]).length = bs.length + 1 from by simp] at HF
    clear hcell hwarm kp hfin happ h hp
    go_wp2
    go_end0
    exact HF.out

set_option maxHeartbeats 1000000 in
theorem new_any (w : World) : Calls Tryd.prog 16 #[] w fun e w' => e = .returned (.pointer (some ⟨w.heap.size, 0, none⟩)) ∧ Wr w.heap.size w' w.heap.size (.slice none 0 0) [] ∧ Kp No w w' := by
  go_enter Tryd.func16, Tryd.ntmps16
  go_wp2
  go_ret
  refine ⟨rfl, ⟨?_, ?_, World.ownsRow_nil _ _ _ _, by simp [Value.ownBlock], by simp⟩, (Kp.refl _ _).alloc _⟩
  · simp
  · simp

theorem byte_nat (base p : Nat) (w : World) (v : Value) (bs : List UInt8) (n : Nat) (hn : n < 256) (h : Wr base w p v bs) (hl : bs.length < 140737488355328) :
    Calls Tryd.prog 37 #[.pointer (some ⟨p, 0, none⟩), .int .u8 (n : Int)] w (WrPost base p v (bs ++ [n.toUInt8]) w) := by
  have := byte_any base p w v bs n.toUInt8 h hl
  rwa [show n.toUInt8.toNat = n from by simp [Nat.toUInt8]; omega] at this

set_option maxRecDepth 100000 in
set_option maxHeartbeats 1000000 in
theorem num_any (base p : Nat) (w : World) (v : Value) (bs : List UInt8) (n : Nat) (hn : n < U64) (h : Wr base w p v bs) (hl : bs.length + 10 < 140737488355328) :
    Calls Tryd.prog 57 #[.pointer (some ⟨p, 0, none⟩), .int .u64 (n : Int)] w (WrPost base p v (bs ++ num n) w) := by
  have H := Hid_mk h
  have HN := Hid_mk hn
  clear h hn
  go_enter Tryd.func57, Tryd.ntmps57
  go_wp2
  go_loopw [1] (fun t wr => NumRel base p v bs n w t wr) (fun t _ => (intOf t).toNat)
  case atStart => exact ⟨n, [], rfl, HN.out, rfl, by simpa using WrPost.refl H.out⟩
  case round =>
    obtain ⟨m, pre, rfl, hm, hpre, hpost⟩ := hrel
    have hlen : pre.length + (num m).length ≤ 10 := by rw [← List.length_append, hpre]; exact num_len n 10 (by have hn := HN.out; rw [u64_eq] at hn; omega) (by omega)
    have HPre := Hid_mk hpre
    have HPost := Hid_mk hpost
    have HLen := Hid_mk hlen
    have HM := Hid_mk hm
    clear hpre hpost hlen hm
    by_cases hlt : m < 128
    · go_wp2_with fail
      obtain ⟨-, v1, hat⟩ := HPost.out
      refine (byte_nat base p wr v1 _ m (by omega) hat.1 (by have := HLen.out; simp; omega)).mono ?_
      rintro e w1 hpost
      have hfin : WrPost base p v (bs ++ num n) w (.returned (.tuple #[])) w1 := by
        rw [← HPre.out, num_small hlt, ← List.append_assoc]
        exact wr_join hat (hpost.1 ▸ hpost)
      have he := hpost.1
      subst he
      clear hpost hat
      have HF := Hid_mk hfin
      clear hfin
      go_wp2
      go_end0
      exact HF.out
    · go_wp2_with fail
      rw [or128 m]
      obtain ⟨-, v1, hat⟩ := HPost.out
      have hlen2 : bs.length + (pre.length + (num m).length) ≤ bs.length + 10 := by have := HLen.out; omega
      rw [num_big hlt] at hlen2
      simp only [List.length_cons] at hlen2
      refine (byte_nat base p wr v1 _ (m % 128 + 128) (by omega) hat.1 (by simp; omega)).mono ?_
      rintro e w1 hpost
      have hfin : NumRel base p v bs n w (.int .u64 ((m / 128 : Nat) : Int)) w1 := by
        refine ⟨m / 128, pre ++ [(m % 128 + 128).toUInt8], rfl, ?_, ?_, ?_⟩
        · have := HM.out; omega
        · rw [List.append_assoc, ← HPre.out, num_big hlt]; rfl
        · rw [← List.append_assoc]; exact wr_join hat (hpost.1 ▸ hpost)
      have he := hpost.1
      subst he
      clear hpost hat hlen2
      have HF := Hid_mk hfin
      clear hfin
      go_wp2
      go_roundw
      case rel => exact HF.out
      case measure => simp [intOf]; omega

end Go.Proofs.YtpfpnlhihnfahaaDoor.writer

namespace Go.Proofs.YtpfpnlhihnfahaaDoor.clone
open Go.RowKit Go.Proofs.YtpfpnlhihnfahaaDoor.sum Go.Proofs.YtpfpnlhihnfahaaDoor.kept Go.Proofs.YtpfpnlhihnfahaaDoor.app Go.Proofs.YtpfpnlhihnfahaaDoor.writer
set_option linter.unusedVariables false

set_option maxHeartbeats 1000000 in
theorem bytes_any (base p : Nat) (w : World) (v : Value) (bs : List UInt8) (h : Wr base w p v bs) (hl : bs.length ≤ 140737488355328) :
    Calls Tryd.prog 18 #[.pointer (some ⟨p, 0, none⟩)] w (NewBs w bs) := by
  have hcell := h.cell
  have H := Hid_mk h
  clear h
  go_enter Tryd.func18, Tryd.ntmps18
  go_wp2_with fail
  refine (clone_any w v bs (owns_bs H.out.owns) hl).mono ?_
  rintro e w1 ⟨v', rfl, hn⟩
  have hfin : NewBs w bs (.returned v') w1 := ⟨v', rfl, hn⟩
  have HF := Hid_mk hfin
  clear hn hfin hcell
  go_wp2
  go_ret
  exact HF.out

set_option maxRecDepth 100000 in
set_option maxHeartbeats 1000000 in
theorem text_any (base p : Nat) (w : World) (v : Value) (bs : List UInt8) (s : ByteArray) (h : Wr base w p v bs) (hl : bs.length + 10 + s.size < 140737488355328) :
    Calls Tryd.prog 36 #[.pointer (some ⟨p, 0, none⟩), .string s] w (WrPost base p v (bs ++ (num s.size ++ s.data.toList)) w) := by
  have H := Hid_mk h
  clear h
  go_enter Tryd.func36, Tryd.ntmps36
  go_wp2_with fail
  refine (num_any base p w v bs s.size (by rw [u64_eq]; omega) H.out (by omega)).mono ?_
  rintro e w1 ⟨rfl, v1, hat⟩
  have HA := Hid_mk hat
  have hcell := hat.1.cell
  have hwarm := hat.1.warm
  have hroom := hat.1.room
  have hlen : (num s.size).length ≤ 10 := num_len _ _ (by omega) (by omega)
  have HL := Hid_mk hlen
  clear hat hlen
  go_wp2_with (at_builtin; (refine wpList_append_str _ rfl _ _ rfl base _ (bs ++ num s.size) rfl HA.out.1.owns s rfl ?c1 hroom ?_))
  case c1 => have := HL.out; simp; omega
  · intro v' w2 happ
    have h := HA.out.1
    have kp : Kp (fun k => some k = v1.ownBlock) w1 w2 := app_kept0 happ fun k _ e => e.symm
    have hp := World.block_lt_of_cell? w1 _ hcell
    have hc1 : w2.cell? ⟨p, 0, none⟩ = some v1 := kp.cell' hcell (fun e => h.apart e.symm)
    have hf1 : w2.frozen? ⟨p, 0, none⟩ = false := (kp.frozen hp (fun e => h.apart e.symm)).trans hwarm
    have hfin := wr_join HA.out (wr_store h (Nat.le_trans hroom kp.size) happ.1 kp (app_fresh0 happ))
    rw [List.append_assoc] at hfin
    have HF := Hid_mk hfin
    rcases owns_any happ.1 with ⟨rfl, _⟩ | ⟨g, cap, rfl, hg1, hg2⟩
    · clear hcell hwarm kp hfin happ h hp
      go_wp2
      go_end0
      exact HF.out
    · generalize (bs ++ num s.size ++ s.data.toList).length = L at *
      clear hcell hwarm kp hfin happ h hp
      go_wp2
      go_end0
      exact HF.out

end Go.Proofs.YtpfpnlhihnfahaaDoor.clone
