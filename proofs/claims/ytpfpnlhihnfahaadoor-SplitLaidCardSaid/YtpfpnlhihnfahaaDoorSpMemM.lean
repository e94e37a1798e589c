/- The project's Splitter in memory; look, add, end, New, Feed, Held. The project's Splitter: end, add, New, Feed, Held. A scope with any labels: what holds at each jump, and a measure. No program is named here. The project's Splitter: up to a byte. -/
import Derived.Test.YtpfpnlhihnfahaaDoorFsPlainM
import Derived.Test.YtpfpnlhihnfahaaDoorBaseM
import Derived.ScopeJumps
import Derived.WalkMore

namespace Go.Proofs.YtpfpnlhihnfahaaDoor.spl
open Go.RowKit Go.Maps Go.Proofs.YtpfpnlhihnfahaaDoor.sum Go.Proofs.YtpfpnlhihnfahaaDoor.kept Go.Proofs.YtpfpnlhihnfahaaDoor.app Go.Proofs.YtpfpnlhihnfahaaDoor.writer Go.Proofs.YtpfpnlhihnfahaaDoor.clone Go.Proofs.YtpfpnlhihnfahaaDoor.known Go.Proofs.YtpfpnlhihnfahaaDoor.unseal Go.Proofs.YtpfpnlhihnfahaaDoor.snp
set_option linter.unusedVariables false

/-- the project's splitter at block p -/
structure SpAt (w : World) (base p m : Nat) (s : SpS) (vr va : Value) : Prop where
  c0 : w.cell? ⟨p, 0, none⟩ = some (.int .i64 (m : Int))
  c1 : w.cell? ⟨p, 1, none⟩ = some vr
  c2 : w.cell? ⟨p, 2, none⟩ = some (.bool s.over)
  c3 : w.cell? ⟨p, 3, none⟩ = some (.bool s.waits)
  c4 : w.cell? ⟨p, 4, none⟩ = some va
  warm : ∀ o, w.frozen? ⟨p, o, none⟩ = false
  held : Wi w base vr s.held
  rest : Wi w base va s.rest
  low : base ≤ p
  ar : vr.ownBlock ≠ some p
  aa : va.ownBlock ≠ some p
  ara : ∀ g, vr.ownBlock = some g → va.ownBlock ≠ some g
/-- which blocks are its own -/
def ownS (p : Nat) (vr va : Value) : Nat → Bool := fun k => decide (k = p ∨ vr.ownBlock = some k ∨ va.ownBlock = some k)
/-- the project's splitter -/
def PSp : SpT := fun w base p ρ m s => ∃ vr va, SpAt w base p m s vr va ∧ ρ = ownS p vr va

theorem ownS_iff {p k : Nat} {vr va : Value} : ownS p vr va k = true ↔ (k = p ∨ vr.ownBlock = some k ∨ va.ownBlock = some k) := by unfold ownS; exact decide_eq_true_iff
theorem ownS_no {p k : Nat} {vr va : Value} : ownS p vr va k = false ↔ ¬ (k = p ∨ vr.ownBlock = some k ∨ va.ownBlock = some k) := by unfold ownS; exact decide_eq_false_iff_not

section
variable {w w' w1 : World} {base p m : Nat} {s : SpS} {vr va v : Value} {bs : List UInt8}
theorem SpAt.lt (h : SpAt w base p m s vr va) : p < w.heap.size := World.block_lt_of_cell? w ⟨p, 0, none⟩ h.c0
theorem SpAt.room (h : SpAt w base p m s vr va) : base ≤ w.heap.size := Nat.le_of_lt (Nat.lt_of_le_of_lt h.low h.lt)
theorem SpAt.kept {S : Nat → Prop} (h : SpAt w base p m s vr va) (hk : Kp S w w') (hn : ∀ k, ownS p vr va k = true → ¬ S k) : SpAt w' base p m s vr va :=
  have hp := hn p (ownS_iff.2 (.inl rfl))
  ⟨hk.cell' h.c0 hp, hk.cell' h.c1 hp, hk.cell' h.c2 hp, hk.cell' h.c3 hp, hk.cell' h.c4 hp, fun o => (hk.frozen (p := ⟨p, o, none⟩) h.lt hp).trans (h.warm o),
    h.held.kept hk fun k e => hn k (ownS_iff.2 (.inr (.inl e))), h.rest.kept hk fun k e => hn k (ownS_iff.2 (.inr (.inr e))), h.low, h.ar, h.aa, h.ara⟩
theorem SpAt.no (h : SpAt w base p m s vr va) (hk : Kp No w w') : SpAt w' base p m s vr va := h.kept hk fun _ _ => id
theorem cell_offS {w : World} {r i j : Nat} {u v : Value} (h : w.cell? ⟨r, i, none⟩ = some u) (hne : j ≠ i) : (w.setCell ⟨r, j, none⟩ v).cell? ⟨r, i, none⟩ = some u := by
  rw [World.cell?_setCell_other w _ _ _ (by intro e; cases e; exact hne rfl)]
  exact h
theorem Wi.off (h : Wi w base v bs) (hp : v.ownBlock ≠ some p) (j : Nat) (u : Value) : Wi (w.setCell ⟨p, j, none⟩ u) base v bs :=
  h.kept ((Kp.refl (fun k => k = p) w).setCell (p := ⟨p, j, none⟩) (fun _ => rfl) u) fun k e e2 => hp (e2 ▸ e)
theorem SpAt.set2 (h : SpAt w base p m s vr va) (b : Bool) : SpAt (w.setCell ⟨p, 2, none⟩ (.bool b)) base p m { s with over := b } vr va :=
  ⟨cell_offS h.c0 (by omega), cell_offS h.c1 (by omega), World.cell?_setCell_same w _ _ h.c2, cell_offS h.c3 (by omega), cell_offS h.c4 (by omega), fun o => by rw [World.frozen?_setCell]; exact h.warm o, h.held.off h.ar _ _, h.rest.off h.aa _ _, h.low, h.ar, h.aa, h.ara⟩
theorem SpAt.set3 (h : SpAt w base p m s vr va) (b : Bool) : SpAt (w.setCell ⟨p, 3, none⟩ (.bool b)) base p m { s with waits := b } vr va :=
  ⟨cell_offS h.c0 (by omega), cell_offS h.c1 (by omega), cell_offS h.c2 (by omega), World.cell?_setCell_same w _ _ h.c3, cell_offS h.c4 (by omega), fun o => by rw [World.frozen?_setCell]; exact h.warm o, h.held.off h.ar _ _, h.rest.off h.aa _ _, h.low, h.ar, h.aa, h.ara⟩
/-- another row of what is held, made out of the old one or new -/
theorem SpAt.put1 (h : SpAt w base p m s vr va) (hk : Kp (fun k => vr.ownBlock = some k) w w1) (hw : Wi w1 base v bs) (hb : v.ownBlock = vr.ownBlock ∨ ∀ g, v.ownBlock = some g → w.heap.size ≤ g) : SpAt (w1.setCell ⟨p, 1, none⟩ v) base p m { s with held := bs } v va := by
  have hp : ¬ (vr.ownBlock = some p) := h.ar
  have hv : v.ownBlock ≠ some p := by
    rcases hb with e | e
    · rw [e]; exact hp
    · intro e2; have := e p e2; have := h.lt; omega
  refine ⟨cell_offS (hk.cell' h.c0 hp) (by omega), World.cell?_setCell_same w1 _ _ (hk.cell' h.c1 hp), cell_offS (hk.cell' h.c2 hp) (by omega), cell_offS (hk.cell' h.c3 hp) (by omega), cell_offS (hk.cell' h.c4 hp) (by omega), fun o => ?_, hw.off hv _ _, (h.rest.kept hk fun k e e2 => h.ara k e2 e).off h.aa _ _, h.low, hv, h.aa, fun g e => ?_⟩
  · rw [World.frozen?_setCell]; exact (hk.frozen (p := ⟨p, o, none⟩) h.lt hp).trans (h.warm o)
  · rcases hb with e2 | e2
    · exact h.ara g (e2 ▸ e)
    · intro e3; have := e2 g e; have := (h.rest.lt g e3).2; omega
theorem SpAt.put4 (h : SpAt w base p m s vr va) (hk : Kp (fun k => va.ownBlock = some k) w w1) (hw : Wi w1 base v bs) (hb : v.ownBlock = va.ownBlock ∨ ∀ g, v.ownBlock = some g → w.heap.size ≤ g) : SpAt (w1.setCell ⟨p, 4, none⟩ v) base p m { s with rest := bs } vr v := by
  have hp : ¬ (va.ownBlock = some p) := h.aa
  have hv : v.ownBlock ≠ some p := by
    rcases hb with e | e
    · rw [e]; exact hp
    · intro e2; have := e p e2; have := h.lt; omega
  refine ⟨cell_offS (hk.cell' h.c0 hp) (by omega), cell_offS (hk.cell' h.c1 hp) (by omega), cell_offS (hk.cell' h.c2 hp) (by omega), cell_offS (hk.cell' h.c3 hp) (by omega), World.cell?_setCell_same w1 _ _ (hk.cell' h.c4 hp), fun o => ?_, (h.held.kept hk fun k e e2 => h.ara k e e2).off h.ar _ _, hw.off hv _ _, h.low, h.ar, hv, fun g e => ?_⟩
  · rw [World.frozen?_setCell]; exact (hk.frozen (p := ⟨p, o, none⟩) h.lt hp).trans (h.warm o)
  · rcases hb with e2 | e2
    · rw [e2]; exact h.ara g e
    · intro e3; have := e2 g e3; have := (h.held.lt g e).2; omega
theorem fr_set {vr va : Value} (hk : Kp (fun k => ownS p vr va k = true) w w1) (j : Nat) (u : Value) (hlt : p < w.heap.size) {vr' va' : Value}
    (hr : vr'.ownBlock = vr.ownBlock ∨ ∀ g, vr'.ownBlock = some g → w.heap.size ≤ g) (ha : va'.ownBlock = va.ownBlock ∨ ∀ g, va'.ownBlock = some g → w.heap.size ≤ g) : FrS (ownS p vr va) w (ownS p vr' va') (w1.setCell ⟨p, j, none⟩ u) := by
  refine ⟨hk.setCell (p := ⟨p, j, none⟩) (fun _ => ownS_iff.2 (.inl rfl)) u, fun k hk2 e => ?_⟩
  rw [ownS_no] at e ⊢
  rintro (e2 | e2 | e2)
  · exact e (.inl e2)
  · rcases hr with h | h
    · exact e (.inr (.inl (h ▸ e2)))
    · have := h k e2; omega
  · rcases ha with h | h
    · exact e (.inr (.inr (h ▸ e2)))
    · have := h k e2; omega
theorem kp_r (hk : Kp (fun k => vr.ownBlock = some k) w w1) : Kp (fun k => ownS p vr va k = true) w w1 := hk.mono fun k _ e => ownS_iff.2 (.inr (.inl e))
theorem kp_a (hk : Kp (fun k => va.ownBlock = some k) w w1) : Kp (fun k => ownS p vr va k = true) w w1 := hk.mono fun k _ e => ownS_iff.2 (.inr (.inr e))
end

theorem PSp.kept {S : Nat → Prop} {w w' : World} {base p : Nat} {ρ : Nat → Bool} {m : Nat} {s : SpS} (h : PSp w base p ρ m s) (hk : Kp S w w') (hn : ∀ k, ρ k = true → ¬ S k) : PSp w' base p ρ m s := by
  obtain ⟨vr, va, h, rfl⟩ := h
  exact ⟨vr, va, h.kept hk hn, rfl⟩
theorem PSp.low {w : World} {base p : Nat} {ρ : Nat → Bool} {m : Nat} {s : SpS} (h : PSp w base p ρ m s) (k : Nat) (hk : ρ k = true) : base ≤ k ∧ k < w.heap.size := by
  obtain ⟨vr, va, h, rfl⟩ := h
  rcases ownS_iff.1 hk with rfl | e | e
  · exact ⟨h.low, h.lt⟩
  · exact h.held.lt k e
  · exact h.rest.lt k e

set_option maxRecDepth 100000 in
set_option maxHeartbeats 4000000 in
theorem look_none (w : World) (base p : Nat) (ρ : Nat → Bool) (m : Nat) (s : SpS) (h : PSp w base p ρ m s) (hr : s.rest = []) : Calls Tryd.prog 55 #[.pointer (some ⟨p, 0, none⟩)] w (SpPost PSp w base p ρ m s (.tuple #[.int .u8 0, .bool false])) := by
  obtain ⟨vr, va, h, rfl⟩ := h
  have H := Hid_mk h
  have c4 := h.c4
  have f4 := h.warm 4
  obtain ⟨a, c, rfl, -, -, -⟩ := h.rest.any
  rw [hr] at c4
  simp only [List.length_nil] at c4
  clear h
  go_enter Tryd.func55, Tryd.ntmps55
  go_wp2
  go_ret2
  have hh := H.out.put4 (Kp.refl _ _) (Wi.nil w base) (.inr fun g e => by simp [Value.ownBlock] at e)
  have e1 : ({ s with rest := [] } : SpS) = s := by rw [← hr]
  rw [e1] at hh
  exact ⟨rfl, _, ⟨_, _, hh, rfl⟩, fr_set (Kp.refl _ _) 4 _ H.out.lt (.inl rfl) (.inr fun g e => by simp [Value.ownBlock] at e)⟩

set_option maxRecDepth 100000 in
set_option maxHeartbeats 4000000 in
theorem look_some (w : World) (base p : Nat) (ρ : Nat → Bool) (m : Nat) (s : SpS) (b : UInt8) (q : List UInt8) (h : PSp w base p ρ m s) (hr : s.rest = b :: q) : Calls Tryd.prog 55 #[.pointer (some ⟨p, 0, none⟩)] w (SpPost PSp w base p ρ m { s with rest := q } (.tuple #[.int .u8 (b.toNat : Int), .bool true])) := by
  obtain ⟨vr, va, h, rfl⟩ := h
  have H := Hid_mk h
  have c4 := h.c4
  have f4 := h.warm 4
  have hrest := h.rest
  rw [hr] at hrest
  rcases id hrest with ⟨-, e⟩ | ⟨g, o, cap, rfl, h4, h5, h1, h2, h3, h6⟩
  · cases e
  have hc0 := h3 0 (by simp)
  simp only [List.length_cons, List.getD_cons_zero, Nat.add_zero, B] at c4 hc0 h1
  unfold maxLen at h2
  have hT := hrest.tail
  obtain ⟨vn, hvn⟩ : ∃ vn : Value, vn = if cap = 1 then .slice (some ⟨g, o, none⟩) q.length 0 else .slice (some ⟨g, o + 1, none⟩) q.length (cap - 1) := ⟨_, rfl⟩
  rw [← hvn] at hT
  have hob : vn.ownBlock = some g := by rw [hvn]; split <;> rfl
  have h7 := h.put4 (Kp.refl _ _) hT (.inl hob)
  have hf : FrS (ownS p vr (.slice (some ⟨g, o, none⟩) (b :: q).length cap)) w (ownS p vr vn) (w.setCell ⟨p, 4, none⟩ vn) := fr_set (Kp.refl _ _) 4 _ h.lt (.inl rfl) (.inl hob)
  have HF := Hid_mk hf
  have H7 := Hid_mk h7
  have hq0 : (0 : Int) ≤ (q.length : Int) := Int.natCast_nonneg _
  have hcr : (q.length : Int) + 1 ≤ (cap : Int) := by omega
  have hq1 : ¬ (q.length : Int) + 1 = 0 := by omega
  have hlt : g ≠ p := fun e => h.aa (by simp [Value.ownBlock, e])
  clear h hrest h3 h4 h5 h6 hT hob hf h7 hr H
  by_cases hck : cap = 1
  all_goals first
    | (rw [if_pos hck] at hvn; obtain rfl : q = [] := List.eq_nil_of_length_eq_zero (by omega); simp only [List.length_nil, Nat.zero_add] at hvn c4)
    | (rw [if_neg hck] at hvn)
  all_goals
    subst hvn
    try subst hck
    go_enter Tryd.func55, Tryd.ntmps55
    go_wp2
    go_ret2
    exact ⟨rfl, _, ⟨_, _, H7.out, rfl⟩, HF.out⟩

end Go.Proofs.YtpfpnlhihnfahaaDoor.spl

namespace Go.Proofs.YtpfpnlhihnfahaaDoor.spl
open Go.RowKit Go.Maps Go.Proofs.YtpfpnlhihnfahaaDoor.sum Go.Proofs.YtpfpnlhihnfahaaDoor.kept Go.Proofs.YtpfpnlhihnfahaaDoor.app Go.Proofs.YtpfpnlhihnfahaaDoor.writer Go.Proofs.YtpfpnlhihnfahaaDoor.clone Go.Proofs.YtpfpnlhihnfahaaDoor.known Go.Proofs.YtpfpnlhihnfahaaDoor.unseal Go.Proofs.YtpfpnlhihnfahaaDoor.snp
set_option linter.unusedVariables false

set_option maxRecDepth 100000 in
set_option maxHeartbeats 4000000 in
theorem end_any (w : World) (base p : Nat) (ρ : Nat → Bool) (m : Nat) (s : SpS) (h : PSp w base p ρ m s) : Calls Tryd.prog 35 #[.pointer (some ⟨p, 0, none⟩)] w (SpPost PSp w base p ρ m (endS s) (.string (tx s.held))) := by
  obtain ⟨vr, va, h, rfl⟩ := h
  have H := Hid_mk h
  have c1 := h.c1
  have c2 := h.c2
  have c3 := h.c3
  have f1 := h.warm 1
  have f2 := h.warm 2
  have f3 := h.warm 3
  have hcv := conv_tx h.held.rd
  obtain ⟨ah, ch, rfl, g1, g2, -⟩ := h.held.any
  have hz := h.held.take 0 (Nat.zero_le _)
  simp only [List.take_zero] at hz
  have HZ := Hid_mk hz
  clear h hz
  go_enter Tryd.func35, Tryd.ntmps35
  go_wp2
  go_ret
  have hob : (Value.slice ah 0 ch).ownBlock = (Value.slice ah s.held.length ch).ownBlock := by cases ah <;> rfl
  have h1 := ((H.out.put1 (Kp.refl _ _) HZ.out (.inl hob)).set2 false).set3 false
  refine ⟨rfl, _, ⟨_, _, h1, rfl⟩, ?_⟩
  have k1 : Kp (fun k => ownS p (.slice ah s.held.length ch) va k = true) w ((w.setCell ⟨p, 1, none⟩ (.slice ah 0 ch)).setCell ⟨p, 2, none⟩ (.bool false)) :=
    ((Kp.refl _ w).setCell (p := ⟨p, 1, none⟩) (fun _ => ownS_iff.2 (.inl rfl)) _).setCell (p := ⟨p, 2, none⟩) (fun _ => ownS_iff.2 (.inl rfl)) _
  exact fr_set k1 3 _ H.out.lt (.inl hob) (.inl rfl)

set_option maxRecDepth 100000 in
set_option maxHeartbeats 4000000 in
theorem add_any (w : World) (base p : Nat) (ρ : Nat → Bool) (m : Nat) (s : SpS) (b : UInt8) (h : PSp w base p ρ m s) (hok : OkS m s) (hm : m ≤ 1000000) : Calls Tryd.prog 56 #[.pointer (some ⟨p, 0, none⟩), .int .u8 (b.toNat : Int)] w (SpPost PSp w base p ρ m (putS m s b) (.tuple #[])) := by
  obtain ⟨vr, va, h, rfl⟩ := h
  obtain ⟨w0, hw0⟩ : ∃ w0, w.drew = w0 := ⟨_, rfl⟩
  have kd : Kp No w w0 := hw0 ▸ (Kp.refl No w).drew
  have HW := Hid_mk hw0
  have h' := h.no kd
  have H := Hid_mk h'
  have HKd := Hid_mk kd
  have HLt := Hid_mk h.lt
  have c0 := h.c0
  have c1 := h.c1
  have d1 := h'.c1
  have d2 := h'.c2
  have f1 := h'.warm 1
  have f2 := h'.warm 2
  obtain ⟨ah, ch, rfl, g1, g2, -⟩ := h.held.any
  unfold OkS at hok
  have hsz : w.heap.size = w0.heap.size := by rw [← hw0]; rfl
  have HSz := Hid_mk hsz
  clear hw0 kd hsz
  by_cases hl : s.held.length < m
  · have hli : ¬ (s.held.length : Int) = (m : Int) := by omega
    obtain ⟨hs, hhs⟩ : ∃ hs, s.held ++ [b] = hs := ⟨_, rfl⟩
    have e1 : putS m s b = { s with held := hs } := by rw [← hhs]; exact if_pos hl
    rw [e1]
    have HHs := Hid_mk hhs
    have hHd : Wi (w0.alloc (.cells #[.int .u8 (b.toNat : Int)] 5)) base (.slice ah s.held.length ch) s.held := h'.held.no ((Kp.refl No w0).alloc _)
    have HHd := Hid_mk hHd
    have HRoom := Hid_mk h'.room
    have ca := ((Kp.refl No w0).alloc (.cells #[.int .u8 (b.toNat : Int)] 5)).cell' d1 id
    have HL : Hid (s.held.length + 1 ≤ 140737488355328) := Hid_mk (by omega)
    clear e1 hl h h' hok hhs hHd
    go_enter Tryd.func56, Tryd.ntmps56
    go_wp2_with fail
    go_region_held3 (fun W => W.cell? ⟨p, 0, none⟩ = some (.int .i64 (m : Int)) ∧ W.cell? ⟨p, 1, none⟩ = some (.slice ah s.held.length ch)) (first | (dsimp only; exact ⟨c0, c1⟩) | go_keep) (fail)
    rw [HW.out]
    clear c0 c1
    go_wp2_with (at_builtin; (refine wpList_append_wi _ rfl _ _ rfl base (.slice ah s.held.length ch) s.held rfl HHd.out _ [b] rfl (bs_one w0 b) HL.out (Nat.le_trans HRoom.out (by simp)) ?_))
    intro v2 w2 happ
    obtain ⟨a1, a2, a3⟩ := happ
    rw [HHs.out] at a1
    have k2 : Kp (fun k => (Value.slice ah s.held.length ch).ownBlock = some k) w0 w2 := ((Kp.refl _ w0).alloc _).trans' a2
    have hlt := H.out.lt
    have hnp : ¬ ((Value.slice ah s.held.length ch).ownBlock = some p) := H.out.ar
    have a3' : v2.ownBlock = (Value.slice ah s.held.length ch).ownBlock ∨ ∀ g, v2.ownBlock = some g → w0.heap.size ≤ g := a3.imp id fun e g e2 => by rw [e] at e2; cases e2; simp
    have e1 := k2.cell' d1 hnp
    have e2 := (k2.frozen (p := ⟨p, 1, none⟩) hlt hnp).trans f1
    have HP := Hid_mk (H.out.put1 k2 a1 a3')
    have HF : Hid (FrS (ownS p (.slice ah s.held.length ch) va) w (ownS p v2 va) (w2.setCell ⟨p, 1, none⟩ v2)) := Hid_mk (fr_set ((HKd.out.to).trans' (kp_r k2)) 1 v2 HLt.out (by rw [HSz.out]; exact a3') (.inl rfl))
    obtain ⟨x2, y2, rfl, -, -, -⟩ := a1.any
    clear a2 a3 a3' k2 d1 d2 f1 f2 hlt hnp ca a1
    go_wp2
    go_end0
    exact ⟨rfl, _, ⟨_, _, HP.out, rfl⟩, HF.out⟩
  · have hli : (s.held.length : Int) = (m : Int) := by omega
    have e1 : putS m s b = { s with over := true } := if_neg hl
    rw [e1]
    have HF : Hid (FrS (ownS p (.slice ah s.held.length ch) va) w (ownS p (.slice ah s.held.length ch) va) (w0.setCell ⟨p, 2, none⟩ (.bool true))) := Hid_mk (fr_set HKd.out.to 2 _ HLt.out (.inl rfl) (.inl rfl))
    clear e1 hl h h' hok
    go_enter Tryd.func56, Tryd.ntmps56
    go_wp2_with fail
    go_region_held3 (fun W => W.cell? ⟨p, 0, none⟩ = some (.int .i64 (m : Int)) ∧ W.cell? ⟨p, 1, none⟩ = some (.slice ah s.held.length ch)) (first | (dsimp only; exact ⟨c0, c1⟩) | go_keep) (fail)
    rw [HW.out]
    clear c0 c1
    go_wp2
    go_end0
    exact ⟨rfl, _, ⟨_, _, H.out.set2 true, rfl⟩, HF.out⟩

set_option maxRecDepth 100000 in
set_option maxHeartbeats 4000000 in
theorem spnew_ok (w : World) (m : Nat) (h1 : 1 ≤ m) (h2 : m ≤ 200) : Calls Tryd.prog 7 #[.int .i64 (m : Int)] w fun e w' => ∃ p ρ, e = .returned (.tuple #[.pointer (some ⟨p, 0, none⟩), .int .i64 0]) ∧ PSp w' w.heap.size p ρ m zeroS ∧ Kp No w w' := by
  have i1 : ¬ (m : Int) < 1 := by omega
  have i2 : ¬ (200 : Int) < (m : Int) := by omega
  clear h1 h2
  go_enter Tryd.func7, Tryd.ntmps7
  go_wp2
  go_ret2
  refine ⟨w.heap.size, rfl, ⟨_, .slice none 0 0, .slice none 0 0, ?_, rfl⟩, (Kp.refl _ _).alloc _⟩
  exact ⟨by simp, by simp, by simp [zeroS], by simp [zeroS], by simp, fun o => by simp, Wi.nil _ _, Wi.nil _ _, Nat.le_refl _, by simp [Value.ownBlock], by simp [Value.ownBlock], fun g e => by simp [Value.ownBlock] at e⟩

set_option maxRecDepth 100000 in
set_option maxHeartbeats 4000000 in
theorem spnew_no (w : World) (i : Int) (h : i < 1 ∨ 200 < i) : Calls Tryd.prog 7 #[.int .i64 i] w fun e w' => e = .returned (.tuple #[.pointer none, .int .i64 1]) ∧ w' = w := by
  by_cases h1 : i < 1
  · clear h
    go_enter Tryd.func7, Tryd.ntmps7
    go_wp2
    go_ret2
    exact ⟨rfl, rfl⟩
  · have h2 : 200 < i := by omega
    clear h
    go_enter Tryd.func7, Tryd.ntmps7
    go_wp2
    go_ret2
    exact ⟨rfl, rfl⟩

set_option maxRecDepth 100000 in
set_option maxHeartbeats 4000000 in
theorem held_any (w : World) (base p : Nat) (ρ : Nat → Bool) (m : Nat) (s : SpS) (h : PSp w base p ρ m s) : Calls Tryd.prog 20 #[.pointer (some ⟨p, 0, none⟩)] w fun e w' => e = .returned (.int .i64 (s.held.length : Int)) ∧ w' = w := by
  obtain ⟨vr, va, h, rfl⟩ := h
  have c1 := h.c1
  obtain ⟨ah, ch, rfl, g1, g2, -⟩ := h.held.any
  clear h
  go_enter Tryd.func20, Tryd.ntmps20
  go_wp2
  go_ret
  exact ⟨rfl, rfl⟩

set_option maxRecDepth 100000 in
set_option maxHeartbeats 4000000 in
theorem feed_any (w : World) (base p : Nat) (ρ : Nat → Bool) (m : Nat) (s : SpS) (v : Value) (bs : List UInt8) (h : PSp w base p ρ m s) (hb : Bs w v bs) (hl : s.rest.length + bs.length ≤ 140737488355328) :
    Calls Tryd.prog 10 #[.pointer (some ⟨p, 0, none⟩), v] w (SpPost PSp w base p ρ m (feedS s bs) (.tuple #[])) := by
  obtain ⟨vr, va, h, rfl⟩ := h
  have H := Hid_mk h
  have HB := Hid_mk hb
  have c4 := h.c4
  have f4 := h.warm 4
  have HR := Hid_mk h.rest
  have HRoom := Hid_mk h.room
  have HL := Hid_mk hl
  obtain ⟨hs, hhs⟩ : ∃ hs, s.rest ++ bs = hs := ⟨_, rfl⟩
  have e1 : feedS s bs = { s with rest := hs } := by rw [← hhs]; rfl
  rw [e1]
  have HHs := Hid_mk hhs
  obtain ⟨aa, ca, rfl, -, -, -⟩ := h.rest.any
  obtain ⟨ab, cb, rfl, -⟩ := id hb
  clear h hb hl hhs e1
  go_enter Tryd.func10, Tryd.ntmps10
  go_wp2_with (at_builtin; (refine wpList_append_wi _ rfl _ _ rfl base (.slice aa s.rest.length ca) s.rest rfl HR.out _ bs rfl HB.out HL.out HRoom.out ?_))
  intro v2 w2 happ
  obtain ⟨a1, a2, a3⟩ := happ
  rw [HHs.out] at a1
  have hnp : ¬ ((Value.slice aa s.rest.length ca).ownBlock = some p) := H.out.aa
  have a3' : v2.ownBlock = (Value.slice aa s.rest.length ca).ownBlock ∨ ∀ g, v2.ownBlock = some g → w.heap.size ≤ g := a3.imp id fun e g e2 => by rw [e] at e2; cases e2; exact Nat.le_refl _
  have e1 := a2.cell' c4 hnp
  have e2 := (a2.frozen (p := ⟨p, 4, none⟩) H.out.lt hnp).trans f4
  have HP := Hid_mk (H.out.put4 a2 a1 a3')
  have HF : Hid (FrS (ownS p vr (.slice aa s.rest.length ca)) w (ownS p vr v2) (w2.setCell ⟨p, 4, none⟩ v2)) := Hid_mk (fr_set (kp_a a2) 4 v2 H.out.lt (.inl rfl) a3')
  obtain ⟨x2, y2, rfl, -, -, -⟩ := a1.any
  clear a2 a3 a3' hnp a1 c4 f4
  go_wp2
  go_end0
  exact ⟨rfl, _, ⟨_, _, HP.out, rfl⟩, HF.out⟩

end Go.Proofs.YtpfpnlhihnfahaaDoor.spl

namespace Go.Proofs.YtpfpnlhihnfahaaDoor.spl
open Go.RowKit
set_option linter.unusedVariables false

/-- As Q; by a goto to a label: what holds there. -/
def jumpF (J : Nat → Act → World → Prop) (Q : Exit → Act → World → Prop) : Exit → Act → World → Prop
  | .goto l, a, w => J l a w
  | e, a, w => Q e a w

theorem wp_scope_many {P : Program} {a : Act} {w : World} {Q : Exit → Act → World → Prop} {c : Code} (J : Nat → Act → World → Prop) (μ : Nat → Act → World → Nat) (rest : Nat → Code) (hf : ∀ l a w, J l a w → findLabel c l = some (rest l))
    (pass : ∀ l a w, J l a w → (rest l).wp P (jumpF (fun l' a' w' => J l' a' w' ∧ μ l' a' w' < μ l a w) Q) a w)
    (first : c.wp P (jumpF J Q) a w) : (Code.scope c).wp P Q a w := by
  intro b k cs
  have hg : ∀ l a w, J l a w → gotoIn l (.inScope c :: k) = some (.code (rest l) :: .inScope c :: k) := fun l a w h => by simp [gotoIn, hf l a w h]
  have key : ∀ n l a w, μ l a w = n → J l a w → ∃ e a' w', Q e a' w' ∧ Arrives P (lone (b.at a (.code (rest l) :: .inScope c :: k)) cs w) b k cs e a' w' := by
    intro n
    induction n using Nat.strongRecOn with
    | _ n ih =>
      intro l a w hn hJ
      obtain ⟨e, a₁, w₁, hq, harr⟩ := pass l a w hJ b (.inScope c :: k) cs
      cases e with
      | normal => exact ⟨.normal, a₁, w₁, hq, Steps.trans harr (.one step_inScope)⟩
      | exit id => exact ⟨.exit id, a₁, w₁, hq, fun k' hk => harr k' (by simp [exitTo, hk])⟩
      | goto l' =>
        obtain ⟨hJ', hlt⟩ := hq
        obtain ⟨e₂, a₂, w₂, hq₂, harr₂⟩ := ih _ (by omega) l' a₁ w₁ rfl hJ'
        exact ⟨e₂, a₂, w₂, hq₂, .of_steps (harr _ (hg l' a₁ w₁ hJ')) harr₂⟩
      | ret => exact ⟨_, a₁, w₁, hq, harr⟩
      | panic ch => exact ⟨_, a₁, w₁, hq, harr⟩
      | outgrown => exact ⟨_, a₁, w₁, hq, harr⟩
  obtain ⟨e, a₁, w₁, hq, harr⟩ := first b (.inScope c :: k) cs
  cases e with
  | normal => exact ⟨.normal, a₁, w₁, hq, .head step_scope (Steps.trans harr (.one step_inScope))⟩
  | exit id => exact ⟨.exit id, a₁, w₁, hq, fun k' hk => .head step_scope (harr k' (by simp [exitTo, hk]))⟩
  | goto l =>
    obtain ⟨e₂, a₂, w₂, hq₂, harr₂⟩ := key _ l a₁ w₁ rfl hq
    exact ⟨e₂, a₂, w₂, hq₂, .of_steps (.head step_scope (harr _ (hg l a₁ w₁ hq))) harr₂⟩
  | ret => exact ⟨_, a₁, w₁, hq, .of_steps (.one step_scope) harr⟩
  | panic ch => exact ⟨_, a₁, w₁, hq, .of_steps (.one step_scope) harr⟩
  | outgrown => exact ⟨_, a₁, w₁, hq, .of_steps (.one step_scope) harr⟩

/-- Two labels, of which the one (A) stands ahead of the other (B): the code behind B is walked first; behind A, where one comes to B, it serves again. -/
theorem scope_two {P : Program} {a : Act} {w : World} {Q : Exit → Act → World → Prop} {c X Y : Code} (A B : Nat) (hne : A ≠ B) (J K : Act → World → Prop) (μ ν : Act → World → Nat) (hA : findLabel c A = some (.seq .skip X)) (hB : findLabel c B = some (.seq .skip Y))
    (passB : ∀ a w, K a w → Y.wp P (jumpF (fun l a' w' => l = A ∧ J a' w' ∧ μ a' w' < ν a w ∨ l = B ∧ K a' w' ∧ ν a' w' < ν a w) Q) a w)
    (passA : ∀ a w, J a w → (∀ a1 w1, K a1 w1 → ν a1 w1 ≤ μ a w → Y.wp P (jumpF (fun l a' w' => l = A ∧ J a' w' ∧ μ a' w' < μ a w ∨ l = B ∧ K a' w' ∧ ν a' w' < μ a w) Q) a1 w1) →
      X.wp P (jumpF (fun l a' w' => l = A ∧ J a' w' ∧ μ a' w' < μ a w ∨ l = B ∧ K a' w' ∧ ν a' w' < μ a w) Q) a w)
    (first : (∀ a w, J a w → X.wp P (jumpF (fun l a' w' => l = A ∧ J a' w' ∨ l = B ∧ K a' w') Q) a w) → c.wp P (jumpF (fun l a' w' => l = A ∧ J a' w' ∨ l = B ∧ K a' w') Q) a w) : (Code.scope c).wp P Q a w := by
  have pA : ∀ a w, J a w → X.wp P (jumpF (fun l a' w' => l = A ∧ J a' w' ∧ μ a' w' < μ a w ∨ l = B ∧ K a' w' ∧ ν a' w' < μ a w) Q) a w := fun a w hJ =>
    passA a w hJ fun a1 w1 hK hle => Code.wp_mono (fun e a' w' h => by
      cases e <;> first
        | exact h
        | (rcases h with ⟨h1, h2, h3⟩ | ⟨h1, h2, h3⟩
           · exact .inl ⟨h1, h2, Nat.lt_of_lt_of_le h3 hle⟩
           · exact .inr ⟨h1, h2, Nat.lt_of_lt_of_le h3 hle⟩)) (passB a1 w1 hK)
  refine wp_scope_many (fun l a w => l = A ∧ J a w ∨ l = B ∧ K a w) (fun l a w => if l = A then μ a w else ν a w) (fun l => if l = A then .seq .skip X else .seq .skip Y) (fun l a w h => ?_) (fun l a w h => ?_) (first fun a w hJ => Code.wp_mono (fun e a' w' h => by
      cases e <;> first
        | exact h
        | (rcases h with ⟨h1, h2, h3⟩ | ⟨h1, h2, h3⟩
           · exact .inl ⟨h1, h2⟩
           · exact .inr ⟨h1, h2⟩)) (pA a w hJ))
  · rcases h with ⟨rfl, -⟩ | ⟨rfl, -⟩
    · simp only [if_pos rfl]; exact hA
    · simp only [if_neg (Ne.symm hne)]; exact hB
  · rcases h with ⟨rfl, hJ⟩ | ⟨rfl, hK⟩
    · simp only [if_pos rfl]
      refine wp_seq (wp_skip (Code.wp_mono (fun e a' w' h => ?_) (pA a w hJ)))
      cases e <;> first
        | exact h
        | (rcases h with ⟨h1, h2, h3⟩ | ⟨h1, h2, h3⟩
           · exact ⟨.inl ⟨h1, h2⟩, by rw [if_pos h1]; exact h3⟩
           · exact ⟨.inr ⟨h1, h2⟩, by rw [if_neg (fun e => hne (e.symm.trans h1))]; exact h3⟩)
    · simp only [if_neg (Ne.symm hne)]
      refine wp_seq (wp_skip (Code.wp_mono (fun e a' w' h => ?_) (passB a w hK)))
      cases e <;> first
        | exact h
        | (rcases h with ⟨h1, h2, h3⟩ | ⟨h1, h2, h3⟩
           · exact ⟨.inl ⟨h1, h2⟩, by rw [if_pos h1]; exact h3⟩
           · exact ⟨.inr ⟨h1, h2⟩, by rw [if_neg (fun e => hne (e.symm.trans h1))]; exact h3⟩)

end Go.Proofs.YtpfpnlhihnfahaaDoor.spl

namespace Go.Proofs.YtpfpnlhihnfahaaDoor.spl
open Go.RowKit Go.Maps Go.Proofs.YtpfpnlhihnfahaaDoor.sum Go.Proofs.YtpfpnlhihnfahaaDoor.kept Go.Proofs.YtpfpnlhihnfahaaDoor.app Go.Proofs.YtpfpnlhihnfahaaDoor.writer Go.Proofs.YtpfpnlhihnfahaaDoor.clone Go.Proofs.YtpfpnlhihnfahaaDoor.known Go.Proofs.YtpfpnlhihnfahaaDoor.unseal Go.Proofs.YtpfpnlhihnfahaaDoor.snp
set_option linter.unusedVariables false

/-- how many bytes have not been looked at -/
def aheadLen (w : World) (p : Nat) : Nat := match w.cell? ⟨p, 4, none⟩ with
  | some (.slice _ n _) => n
  | _ => 0
theorem aheadLen_sp {w : World} {base p : Nat} {ρ : Nat → Bool} {m : Nat} {s : SpS} (h : PSp w base p ρ m s) : aheadLen w p = s.rest.length := by
  obtain ⟨vr, va, h, -⟩ := h
  obtain ⟨a, c, e, -⟩ := h.rest.any
  unfold aheadLen
  rw [h.c4, e]
/-- in the midst of a Next: what it will come to -/
structure Mid (w : World) (base p : Nat) (ρ : Nat → Bool) (m : Nat) (A : Option (List UInt8) × SpS) (G : SpS → Option (List UInt8) × SpS) (wr : World) (ρr : Nat → Bool) (t : SpS) : Prop where
  sp : PSp wr base p ρr m t
  ok : OkS m t
  go : G t = A
  fr : FrS ρ w ρr wr
theorem Mid.call {w wr w' : World} {base p : Nat} {ρ ρr : Nat → Bool} {m : Nat} {A : Option (List UInt8) × SpS} {G G' : SpS → Option (List UInt8) × SpS} {t t' : SpS} (h : Mid w base p ρ m A G wr ρr t) {res : Value} {e : Ending} (hp : SpPost PSp wr base p ρr m t' res e w') (ho : OkS m t') (hg : G' t' = A) : e = .returned res ∧ ∃ ρ', Mid w base p ρ m A G' w' ρ' t' := by
  obtain ⟨he, ρ', h1, h2⟩ := hp
  exact ⟨he, ρ', h1, ho, hg, h.fr.trans h2⟩
theorem Mid.post {w wr : World} {base p : Nat} {ρ ρr : Nat → Bool} {m : Nat} {A : Option (List UInt8) × SpS} {t : SpS} {o : Option (List UInt8)} (h : Mid w base p ρ m A (fun t => (o, t)) wr ρr t) : SpPost PSp w base p ρ m A.2 (ansV A.1) (.returned (ansV A.1)) wr := by
  refine ⟨rfl, ρr, ?_, h.fr⟩
  rw [← h.go]
  exact h.sp

theorem goN_nil {m : Nat} {rs : List UInt8} {t : SpS} {A : Option (List UInt8) × SpS} (h : goS m rs t.rest t = A) (hr : t.rest = []) : (none, t) = A := by
  rw [← h, hr]
  show _ = (none, { t with rest := [] })
  rw [← hr]
theorem goN_more {m : Nat} {rs : List UInt8} {t : SpS} {A : Option (List UInt8) × SpS} {b : UInt8} {q : List UInt8} (h : goS m rs t.rest t = A) (hr : t.rest = b :: q) :
    (if (lookS m rs { t with rest := q } b).1 = true then (some (lookS m rs { t with rest := q } b).2.held, endS (lookS m rs { t with rest := q } b).2) else goS m rs q (lookS m rs { t with rest := q } b).2) = A := by
  rw [← h, hr]
  rfl

/-- behind a label: a byte is looked for -/
def UpJ (w : World) (base p : Nat) (ρ : Nat → Bool) (m : Nat) (A : Option (List UInt8) × SpS) (c : UInt8) (cs : List UInt8) (a : Act) (wr : World) : Prop :=
  ∃ u6 u7 u8 u9 u10 u11 u12 u13 u14 u15 u16 u17 u18 u19 u20 u21 u22 u23 u24 u25 u26 u27 u28 u29, a = { tmps := #[.pointer (some ⟨p, 0, none⟩), .int .u8 (c.toNat : Int), undef, undef, .string ⟨#[]⟩, .bool false, u6, u7, u8, u9, u10, u11, u12, u13, u14, u15, u16, u17, u18, u19, u20, u21, u22, u23, u24, u25, u26, u27, u28, u29], defers := [] } ∧ ∃ ρr t, Mid w base p ρ m A (fun t => goS m (c :: cs) t.rest t) wr ρr t
/-- a byte has come -/
def UpK (w : World) (base p : Nat) (ρ : Nat → Bool) (m : Nat) (A : Option (List UInt8) × SpS) (c : UInt8) (cs : List UInt8) (a : Act) (wr : World) : Prop :=
  ∃ b u7 u8 u9 u10 u11 u12 u13 u14 u15 u16 u17 u18 u19 u20 u21 u22 u23 u24 u25 u26 u27 u28 u29, a = { tmps := #[.pointer (some ⟨p, 0, none⟩), .int .u8 (c.toNat : Int), undef, undef, .string ⟨#[]⟩, .bool false, .int .u8 ((b : UInt8).toNat : Int), u7, u8, u9, u10, u11, u12, u13, u14, u15, u16, u17, u18, u19, u20, u21, u22, u23, u24, u25, u26, u27, u28, u29], defers := [] } ∧ ∃ ρr t, Mid w base p ρ m A (fun t => if (lookS m (c :: cs) t b).1 = true then (some (lookS m (c :: cs) t b).2.held, endS (lookS m (c :: cs) t b).2) else goS m (c :: cs) t.rest (lookS m (c :: cs) t b).2) wr ρr t

set_option maxRecDepth 100000 in
set_option maxHeartbeats 8000000 in
theorem upTo_any (w : World) (base p : Nat) (ρ : Nat → Bool) (m : Nat) (s : SpS) (c : UInt8) (cs : List UInt8) (h : PSp w base p ρ m s) (hok : OkS m s) (hm : m ≤ 200) : Calls Tryd.prog 32 #[.pointer (some ⟨p, 0, none⟩), .int .u8 (c.toNat : Int)] w (SpPost PSp w base p ρ m (nextS m (c :: cs) s).2 (ansV (nextS m (c :: cs) s).1)) := by
  obtain ⟨A, hA⟩ : ∃ A, nextS m (c :: cs) s = A := ⟨_, rfl⟩
  rw [hA]
  have H := Hid_mk h
  have HA := Hid_mk hA
  have HOk := Hid_mk hok
  obtain ⟨vr, va, hh, hρ⟩ := h
  have HH := Hid_mk hh
  have c3 := hh.c3
  have f3 := hh.warm 3
  clear hh hA hok
  go_enter Tryd.func32, Tryd.ntmps32
  go_wp2
  refine scope_two 1 0 (by decide) (UpJ w base p ρ m A c cs) (UpK w base p ρ m A c cs) (fun _ wr => 2 * aheadLen wr p) (fun _ wr => 2 * aheadLen wr p + 1) rfl rfl ?passB ?passA ?first
  case passB =>
    clear c3 f3
    rintro a' wr ⟨b, u7, u8, u9, u10, u11, u12, u13, u14, u15, u16, u17, u18, u19, u20, u21, u22, u23, u24, u25, u26, u27, u28, u29, rfl, ρr, t, hmid⟩
    have HM := Hid_mk hmid
    have hgo := hmid.go
    have hsp := hmid.sp
    have hot := hmid.ok
    by_cases hb : b = c
    · have e1 : lookS m (c :: cs) t b = (true, t) := if_pos hb
      simp only [e1] at hgo
      have hbe : ((b.toNat : Int) == (c.toNat : Int)) = true := by rw [hb]; simp
      have HE := Hid_mk (end_any wr base p ρr m t hsp)
      have HG : Hid ((some t.held, endS t) = A) := Hid_mk (by simpa using hgo)
      clear hgo hsp hot e1 hmid hb
      go_wp2_with fail
      with_reducible refine HE.out.mono ?_
      intro e w6 hpost
      obtain ⟨he, ρ6, hm6⟩ := Mid.call (G' := fun t' => (some t.held, t')) HM.out hpost (endS_ok m t) HG.out
      subst he
      have HP := Hid_mk hm6.post
      have HA1 : Hid (A.1 = some t.held) := Hid_mk (by rw [← HG.out])
      rw [HA1.out] at HP
      clear hpost hm6 HE
      go_wp2
      simp only [jumpF]
      go_ret2
      rw [HA1.out]
      exact HP.out
    · have hbe : ((b.toNat : Int) == (c.toNat : Int)) = false := by
        simp only [beq_eq_false_iff_ne, ne_eq]
        exact fun e => hb (UInt8.toNat_inj.1 (by omega))
      have e1 : lookS m (c :: cs) t b = (false, putS m t b) := if_neg hb
      simp only [e1] at hgo
      have HP := Hid_mk (add_any wr base p ρr m t b hsp hot (by omega))
      have HG : Hid (goS m (c :: cs) (putS m t b).rest (putS m t b) = A) := Hid_mk (by rw [putS_rest]; simpa using hgo)
      have HO := Hid_mk (putS_ok hot b)
      have HLn := Hid_mk (aheadLen_sp hsp)
      clear hgo hsp hot e1 hmid hb
      go_wp2_with fail
      with_reducible refine HP.out.mono ?_
      intro e w6 hpost
      obtain ⟨he, ρ6, hm6⟩ := Mid.call (G' := fun t => goS m (c :: cs) t.rest t) HM.out hpost HO.out HG.out
      subst he
      have HM6 := Hid_mk hm6
      clear hpost hm6 HP
      go_wp2
      go_step3
      refine .inl ⟨rfl, ⟨_, _, _, _, _, _, _, _, _, _, _, _, _, _, _, _, _, _, _, _, _, _, _, _, rfl, _, _, HM6.out⟩, ?_⟩
      rw [HLn.out, aheadLen_sp HM6.out.sp, putS_rest]
      omega
  case passA =>
    clear c3 f3
    rintro a' wr ⟨u6, u7, u8, u9, u10, u11, u12, u13, u14, u15, u16, u17, u18, u19, u20, u21, u22, u23, u24, u25, u26, u27, u28, u29, rfl, ρr, t, hmid⟩ hB
    have HB := Hid_mk hB
    have HM := Hid_mk hmid
    have hgo := hmid.go
    have hsp := hmid.sp
    have hot := hmid.ok
    have HLn := Hid_mk (aheadLen_sp hsp)
    clear hB
    cases hq : t.rest with
    | nil =>
      have HL := Hid_mk (look_none wr base p ρr m t hsp hq)
      have HG := Hid_mk (goN_nil hgo hq)
      have HO := Hid_mk hot
      clear hgo hsp hot hmid hq HB
      go_wp2_with fail
      with_reducible refine HL.out.mono ?_
      intro e w6 hpost
      obtain ⟨he, ρ6, hm6⟩ := Mid.call (G' := fun t' => (none, t')) HM.out hpost HO.out HG.out
      subst he
      have HP := Hid_mk hm6.post
      have HA1 : Hid (A.1 = none) := Hid_mk (by rw [← HG.out])
      rw [HA1.out] at HP
      clear hpost hm6 HL
      go_wp2
      simp only [jumpF]
      go_ret2
      rw [HA1.out]
      exact HP.out
    | cons b q =>
      have HL := Hid_mk (look_some wr base p ρr m t b q hsp hq)
      have HG := Hid_mk (goN_more hgo hq)
      have HO : Hid (OkS m { t with rest := q }) := Hid_mk hot
      have HQ := Hid_mk hq
      clear hgo hsp hot hmid hq
      go_wp2_with fail
      with_reducible refine HL.out.mono ?_
      intro e w6 hpost
      obtain ⟨he, ρ6, hm6⟩ := Mid.call (G' := fun t => if (lookS m (c :: cs) t b).1 = true then (some (lookS m (c :: cs) t b).2.held, endS (lookS m (c :: cs) t b).2) else goS m (c :: cs) t.rest (lookS m (c :: cs) t b).2) HM.out hpost HO.out HG.out
      subst he
      have HM6 := Hid_mk hm6
      clear hpost hm6 HL
      go_wp2
      apply wp_label
      rename_i hK0
      refine hK0 _ _ (HB.out _ _ ⟨b, _, _, _, _, _, _, _, _, _, _, _, _, _, _, _, _, _, _, _, _, _, _, _, rfl, _, _, HM6.out⟩ ?_)
      rw [HLn.out, aheadLen_sp HM6.out.sp, HQ.out]
      simp only [List.length_cons]
      omega
  case first =>
    intro pass
    have HP := Hid_mk pass
    clear pass
    cases hw : s.waits with
    | false =>
      rw [hw] at c3
      have e1 : readyS (c :: cs) s = s := readyS_dry (fun _ => hw)
      have hg : goS m (c :: cs) s.rest s = A := by rw [← HA.out]; unfold nextS; rw [e1]
      have HM : Hid (Mid w base p ρ m A (fun t => goS m (c :: cs) t.rest t) w ρ s) := Hid_mk ⟨H.out, HOk.out, hg, FrS.refl _ _⟩
      clear e1 hg
      go_wp2
      apply wp_label
      rename_i hK0
      exact hK0 _ _ (HP.out _ _ ⟨_, _, _, _, _, _, _, _, _, _, _, _, _, _, _, _, _, _, _, _, _, _, _, _, rfl, _, _, HM.out⟩)
    | true =>
      rw [hw] at c3
      have e1 : readyS (c :: cs) s = { s with waits := false, rest := 10 :: s.rest } := if_pos ⟨by simp, hw⟩
      have hg := HA.out
      unfold nextS at hg
      rw [e1] at hg
      have h2 : PSp (w.setCell ⟨p, 3, none⟩ (.bool false)) base p ρ m { s with waits := false } := ⟨_, _, HH.out.set3 false, hρ⟩
      have hfr : FrS ρ w ρ (w.setCell ⟨p, 3, none⟩ (.bool false)) := by rw [hρ]; exact fr_set (Kp.refl _ _) 3 _ HH.out.lt (.inl rfl) (.inl rfl)
      have HM : Hid (Mid w base p ρ m A (fun t => if (lookS m (c :: cs) t 10).1 = true then (some (lookS m (c :: cs) t 10).2.held, endS (lookS m (c :: cs) t 10).2) else goS m (c :: cs) t.rest (lookS m (c :: cs) t 10).2) (w.setCell ⟨p, 3, none⟩ (.bool false)) ρ { s with waits := false }) := Hid_mk ⟨h2, HOk.out, hg, hfr⟩
      clear e1 hg h2 hfr HP
      go_wp2
      go_step3
      exact .inr ⟨rfl, ⟨10, _, _, _, _, _, _, _, _, _, _, _, _, _, _, _, _, _, _, _, _, _, _, _, rfl, _, _, HM.out⟩⟩

end Go.Proofs.YtpfpnlhihnfahaaDoor.spl
