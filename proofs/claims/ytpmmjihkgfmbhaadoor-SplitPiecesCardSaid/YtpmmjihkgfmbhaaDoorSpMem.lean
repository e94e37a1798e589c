/- The project's Splitter in memory; look, add, end, New, Feed, Held. -/
import Derived.Test.YtpmmjihkgfmbhaaDoorSplitC
import Derived.Test.YtpmmjihkgfmbhaaDoorWi
namespace Go.Proofs.YtpmmjihkgfmbhaaDoor.spl
open Go.RowKit Go.Maps Go.Proofs.YtpmmjihkgfmbhaaDoor.sum Go.Proofs.YtpmmjihkgfmbhaaDoor.kept Go.Proofs.YtpmmjihkgfmbhaaDoor.app Go.Proofs.YtpmmjihkgfmbhaaDoor.writer Go.Proofs.YtpmmjihkgfmbhaaDoor.clone Go.Proofs.YtpmmjihkgfmbhaaDoor.known Go.Proofs.YtpmmjihkgfmbhaaDoor.unseal Go.Proofs.YtpmmjihkgfmbhaaDoor.snp
set_option linter.unusedVariables false

/-- the project's splitter at block p -/
structure SpAt (w : World) (base p m : Nat) (s : SpS) (vr va : Value) : Prop where
  c0 : w.cell? ⟨p, 0, none⟩ = some (.int .i64 (m : Int))
  c1 : w.cell? ⟨p, 1, none⟩ = some vr
  c2 : w.cell? ⟨p, 2, none⟩ = some (.bool s.over)
  c3 : w.cell? ⟨p, 3, none⟩ = some (.bool s.waits)
  c4 : w.cell? ⟨p, 4, none⟩ = some va
  warm : ∀ o, w.frozen? ⟨p, o, none⟩ = false
  held : Wi w base vr s.held
  rest : Wi w base va s.rest
  low : base ≤ p
  ar : vr.ownBlock ≠ some p
  aa : va.ownBlock ≠ some p
  ara : ∀ g, vr.ownBlock = some g → va.ownBlock ≠ some g
/-- which blocks are its own -/
def ownS (p : Nat) (vr va : Value) : Nat → Bool := fun k => decide (k = p ∨ vr.ownBlock = some k ∨ va.ownBlock = some k)
/-- the project's splitter -/
def PSp : SpT := fun w base p ρ m s => ∃ vr va, SpAt w base p m s vr va ∧ ρ = ownS p vr va

theorem ownS_iff {p k : Nat} {vr va : Value} : ownS p vr va k = true ↔ (k = p ∨ vr.ownBlock = some k ∨ va.ownBlock = some k) := by unfold ownS; exact decide_eq_true_iff
theorem ownS_no {p k : Nat} {vr va : Value} : ownS p vr va k = false ↔ ¬ (k = p ∨ vr.ownBlock = some k ∨ va.ownBlock = some k) := by unfold ownS; exact decide_eq_false_iff_not

section
variable {w w' w1 : World} {base p m : Nat} {s : SpS} {vr va v : Value} {bs : List UInt8}
theorem SpAt.lt (h : SpAt w base p m s vr va) : p < w.heap.size := World.block_lt_of_cell? w ⟨p, 0, none⟩ h.c0
theorem SpAt.room (h : SpAt w base p m s vr va) : base ≤ w.heap.size := Nat.le_of_lt (Nat.lt_of_le_of_lt h.low h.lt)
theorem SpAt.kept {S : Nat → Prop} (h : SpAt w base p m s vr va) (hk : Kp S w w') (hn : ∀ k, ownS p vr va k = true → ¬ S k) : SpAt w' base p m s vr va :=
  have hp := hn p (ownS_iff.2 (.inl rfl))
  ⟨hk.cell' h.c0 hp, hk.cell' h.c1 hp, hk.cell' h.c2 hp, hk.cell' h.c3 hp, hk.cell' h.c4 hp, fun o => (hk.frozen (p := ⟨p, o, none⟩) h.lt hp).trans (h.warm o),
    h.held.kept hk fun k e => hn k (ownS_iff.2 (.inr (.inl e))), h.rest.kept hk fun k e => hn k (ownS_iff.2 (.inr (.inr e))), h.low, h.ar, h.aa, h.ara⟩
theorem SpAt.no (h : SpAt w base p m s vr va) (hk : Kp No w w') : SpAt w' base p m s vr va := h.kept hk fun _ _ => id
theorem cell_offS {w : World} {r i j : Nat} {u v : Value} (h : w.cell? ⟨r, i, none⟩ = some u) (hne : j ≠ i) : (w.setCell ⟨r, j, none⟩ v).cell? ⟨r, i, none⟩ = some u := by
  rw [World.cell?_setCell_other w _ _ _ (by intro e; cases e; exact hne rfl)]
  exact h
theorem Wi.off (h : Wi w base v bs) (hp : v.ownBlock ≠ some p) (j : Nat) (u : Value) : Wi (w.setCell ⟨p, j, none⟩ u) base v bs :=
  h.kept ((Kp.refl (fun k => k = p) w).setCell (p := ⟨p, j, none⟩) (fun _ => rfl) u) fun k e e2 => hp (e2 ▸ e)
theorem SpAt.set2 (h : SpAt w base p m s vr va) (b : Bool) : SpAt (w.setCell ⟨p, 2, none⟩ (.bool b)) base p m { s with over := b } vr va :=
  ⟨cell_offS h.c0 (by omega), cell_offS h.c1 (by omega), World.cell?_setCell_same w _ _ h.c2, cell_offS h.c3 (by omega), cell_offS h.c4 (by omega), fun o => by rw [World.frozen?_setCell]; exact h.warm o, h.held.off h.ar _ _, h.rest.off h.aa _ _, h.low, h.ar, h.aa, h.ara⟩
theorem SpAt.set3 (h : SpAt w base p m s vr va) (b : Bool) : SpAt (w.setCell ⟨p, 3, none⟩ (.bool b)) base p m { s with waits := b } vr va :=
  ⟨cell_offS h.c0 (by omega), cell_offS h.c1 (by omega), cell_offS h.c2 (by omega), World.cell?_setCell_same w _ _ h.c3, cell_offS h.c4 (by omega), fun o => by rw [World.frozen?_setCell]; exact h.warm o, h.held.off h.ar _ _, h.rest.off h.aa _ _, h.low, h.ar, h.aa, h.ara⟩
/-- another row of what is held, made out of the old one or new -/
theorem SpAt.put1 (h : SpAt w base p m s vr va) (hk : Kp (fun k => vr.ownBlock = some k) w w1) (hw : Wi w1 base v bs) (hb : v.ownBlock = vr.ownBlock ∨ ∀ g, v.ownBlock = some g → w.heap.size ≤ g) : SpAt (w1.setCell ⟨p, 1, none⟩ v) base p m { s with held := bs } v va := by
  have hp : ¬ (vr.ownBlock = some p) := h.ar
  have hv : v.ownBlock ≠ some p := by
    rcases hb with e | e
    · rw [e]; exact hp
    · intro e2; have := e p e2; have := h.lt; omega
  refine ⟨cell_offS (hk.cell' h.c0 hp) (by omega), World.cell?_setCell_same w1 _ _ (hk.cell' h.c1 hp), cell_offS (hk.cell' h.c2 hp) (by omega), cell_offS (hk.cell' h.c3 hp) (by omega), cell_offS (hk.cell' h.c4 hp) (by omega), fun o => ?_, hw.off hv _ _, (h.rest.kept hk fun k e e2 => h.ara k e2 e).off h.aa _ _, h.low, hv, h.aa, fun g e => ?_⟩
  · rw [World.frozen?_setCell]; exact (hk.frozen (p := ⟨p, o, none⟩) h.lt hp).trans (h.warm o)
  · rcases hb with e2 | e2
    · exact h.ara g (e2 ▸ e)
    · intro e3; have := e2 g e; have := (h.rest.lt g e3).2; omega
theorem SpAt.put4 (h : SpAt w base p m s vr va) (hk : Kp (fun k => va.ownBlock = some k) w w1) (hw : Wi w1 base v bs) (hb : v.ownBlock = va.ownBlock ∨ ∀ g, v.ownBlock = some g → w.heap.size ≤ g) : SpAt (w1.setCell ⟨p, 4, none⟩ v) base p m { s with rest := bs } vr v := by
  have hp : ¬ (va.ownBlock = some p) := h.aa
  have hv : v.ownBlock ≠ some p := by
    rcases hb with e | e
    · rw [e]; exact hp
    · intro e2; have := e p e2; have := h.lt; omega
  refine ⟨cell_offS (hk.cell' h.c0 hp) (by omega), cell_offS (hk.cell' h.c1 hp) (by omega), cell_offS (hk.cell' h.c2 hp) (by omega), cell_offS (hk.cell' h.c3 hp) (by omega), World.cell?_setCell_same w1 _ _ (hk.cell' h.c4 hp), fun o => ?_, (h.held.kept hk fun k e e2 => h.ara k e e2).off h.ar _ _, hw.off hv _ _, h.low, h.ar, hv, fun g e => ?_⟩
  · rw [World.frozen?_setCell]; exact (hk.frozen (p := ⟨p, o, none⟩) h.lt hp).trans (h.warm o)
  · rcases hb with e2 | e2
    · rw [e2]; exact h.ara g e
    · intro e3; have := e2 g e3; have := (h.held.lt g e).2; omega
theorem fr_set {vr va : Value} (hk : Kp (fun k => ownS p vr va k = true) w w1) (j : Nat) (u : Value) (hlt : p < w.heap.size) {vr' va' : Value}
    (hr : vr'.ownBlock = vr.ownBlock ∨ ∀ g, vr'.ownBlock = some g → w.heap.size ≤ g) (ha : va'.ownBlock = va.ownBlock ∨ ∀ g, va'.ownBlock = some g → w.heap.size ≤ g) : FrS (ownS p vr va) w (ownS p vr' va') (w1.setCell ⟨p, j, none⟩ u) := by
  refine ⟨hk.setCell (p := ⟨p, j, none⟩) (fun _ => ownS_iff.2 (.inl rfl)) u, fun k hk2 e => ?_⟩
  rw [ownS_no] at e ⊢
  rintro (e2 | e2 | e2)
  · exact e (.inl e2)
  · rcases hr with h | h
    · exact e (.inr (.inl (h ▸ e2)))
    · have := h k e2; omega
  · rcases ha with h | h
    · exact e (.inr (.inr (h ▸ e2)))
    · have := h k e2; omega
theorem kp_r (hk : Kp (fun k => vr.ownBlock = some k) w w1) : Kp (fun k => ownS p vr va k = true) w w1 := hk.mono fun k _ e => ownS_iff.2 (.inr (.inl e))
theorem kp_a (hk : Kp (fun k => va.ownBlock = some k) w w1) : Kp (fun k => ownS p vr va k = true) w w1 := hk.mono fun k _ e => ownS_iff.2 (.inr (.inr e))
end

theorem PSp.kept {S : Nat → Prop} {w w' : World} {base p : Nat} {ρ : Nat → Bool} {m : Nat} {s : SpS} (h : PSp w base p ρ m s) (hk : Kp S w w') (hn : ∀ k, ρ k = true → ¬ S k) : PSp w' base p ρ m s := by
  obtain ⟨vr, va, h, rfl⟩ := h
  exact ⟨vr, va, h.kept hk hn, rfl⟩
theorem PSp.low {w : World} {base p : Nat} {ρ : Nat → Bool} {m : Nat} {s : SpS} (h : PSp w base p ρ m s) (k : Nat) (hk : ρ k = true) : base ≤ k ∧ k < w.heap.size := by
  obtain ⟨vr, va, h, rfl⟩ := h
  rcases ownS_iff.1 hk with rfl | e | e
  · exact ⟨h.low, h.lt⟩
  · exact h.held.lt k e
  · exact h.rest.lt k e

set_option maxRecDepth 100000 in
set_option maxHeartbeats 4000000 in
theorem look_none (w : World) (base p : Nat) (ρ : Nat → Bool) (m : Nat) (s : SpS) (h : PSp w base p ρ m s) (hr : s.rest = []) : Calls Tryd.prog 44 #[.pointer (some ⟨p, 0, none⟩)] w (SpPost PSp w base p ρ m s (.tuple #[.int .u8 0, .bool false])) := by
  obtain ⟨vr, va, h, rfl⟩ := h
  have H := Hid_mk h
  have c4 := h.c4
  have f4 := h.warm 4
  obtain ⟨a, c, rfl, -, -, -⟩ := h.rest.any
  rw [hr] at c4
  simp only [List.length_nil] at c4
  clear h
  go_enter Tryd.func44, Tryd.ntmps44
  go_wp2
  go_ret2
  have hh := H.out.put4 (Kp.refl _ _) (Wi.nil w base) (.inr fun g e => by simp [Value.ownBlock] at e)
  have e1 : ({ s with rest := [] } : SpS) = s := by rw [← hr]
  rw [e1] at hh
  exact ⟨rfl, _, ⟨_, _, hh, rfl⟩, fr_set (Kp.refl _ _) 4 _ H.out.lt (.inl rfl) (.inr fun g e => by simp [Value.ownBlock] at e)⟩

set_option maxRecDepth 100000 in
set_option maxHeartbeats 4000000 in
theorem look_some (w : World) (base p : Nat) (ρ : Nat → Bool) (m : Nat) (s : SpS) (b : UInt8) (q : List UInt8) (h : PSp w base p ρ m s) (hr : s.rest = b :: q) : Calls Tryd.prog 44 #[.pointer (some ⟨p, 0, none⟩)] w (SpPost PSp w base p ρ m { s with rest := q } (.tuple #[.int .u8 (b.toNat : Int), .bool true])) := by
  obtain ⟨vr, va, h, rfl⟩ := h
  have H := Hid_mk h
  have c4 := h.c4
  have f4 := h.warm 4
  have hrest := h.rest
  rw [hr] at hrest
  rcases id hrest with ⟨-, e⟩ | ⟨g, o, cap, rfl, h4, h5, h1, h2, h3, h6⟩
  · cases e
  have hc0 := h3 0 (by simp)
  simp only [List.length_cons, List.getD_cons_zero, Nat.add_zero, B] at c4 hc0 h1
  unfold maxLen at h2
  have hT := hrest.tail
  obtain ⟨vn, hvn⟩ : ∃ vn : Value, vn = if cap = 1 then .slice (some ⟨g, o, none⟩) q.length 0 else .slice (some ⟨g, o + 1, none⟩) q.length (cap - 1) := ⟨_, rfl⟩
  rw [← hvn] at hT
  have hob : vn.ownBlock = some g := by rw [hvn]; split <;> rfl
  have h7 := h.put4 (Kp.refl _ _) hT (.inl hob)
  have hf : FrS (ownS p vr (.slice (some ⟨g, o, none⟩) (b :: q).length cap)) w (ownS p vr vn) (w.setCell ⟨p, 4, none⟩ vn) := fr_set (Kp.refl _ _) 4 _ h.lt (.inl rfl) (.inl hob)
  have HF := Hid_mk hf
  have H7 := Hid_mk h7
  have hq0 : (0 : Int) ≤ (q.length : Int) := Int.natCast_nonneg _
  have hcr : (q.length : Int) + 1 ≤ (cap : Int) := by omega
  have hq1 : ¬ (q.length : Int) + 1 = 0 := by omega
  have hlt : g ≠ p := fun e => h.aa (by simp [Value.ownBlock, e])
  clear h hrest h3 h4 h5 h6 hT hob hf h7 hr H
  by_cases hck : cap = 1
  all_goals first
    | (rw [if_pos hck] at hvn; obtain rfl : q = [] := List.eq_nil_of_length_eq_zero (by omega); simp only [List.length_nil, Nat.zero_add] at hvn c4)
    | (rw [if_neg hck] at hvn)
  all_goals
    subst hvn
    try subst hck
    go_enter Tryd.func44, Tryd.ntmps44
    go_wp2
    go_ret2
    exact ⟨rfl, _, ⟨_, _, H7.out, rfl⟩, HF.out⟩

end Go.Proofs.YtpmmjihkgfmbhaaDoor.spl
