/- The reference's Disk beside a disk of the project's: whose memory is whose. -/
import Derived.Test.YtomckoeobkfklaaDoorR2Tell
import Derived.Test.YtomckoeobkfklaaDoorDiskMany
namespace Go.Proofs.YtomckoeobkfklaaDoor.r2
open Go.RowKit Go.Maps Go.Proofs.YtomckoeobkfklaaDoor.sum Go.Proofs.YtomckoeobkfklaaDoor.kept Go.Proofs.YtomckoeobkfklaaDoor.app Go.Proofs.YtomckoeobkfklaaDoor.writer Go.Proofs.YtomckoeobkfklaaDoor.clone Go.Proofs.YtomckoeobkfklaaDoor.fs Go.Proofs.YtomckoeobkfklaaDoor.fsDo Go.Proofs.YtomckoeobkfklaaDoor.unseal Go.Proofs.YtomckoeobkfklaaDoor.dsk
set_option linter.unusedVariables false

/-- a slice that lies in nobody's block, which is not r -/
def Aw (w : World) (ρ : Nat → Role) (r : Nat) (v : Value) : Prop := ∀ x o m c, v = .slice (some ⟨x, o, none⟩) m c → ρ x = .other ∧ x ≠ r ∧ x < w.heap.size
theorem Aw.up {w w' : World} {ρ ρ' : Nat → Role} {r : Nat} {v : Value} (h : Aw w ρ r v) (hs : w.heap.size ≤ w'.heap.size) (hρ : ∀ k, k < w.heap.size → ρ k = .other → ρ' k = .other) : Aw w' ρ' r v := fun x o m c e => by
  obtain ⟨h1, h2, h3⟩ := h x o m c e
  exact ⟨hρ x h3 h1, h2, by omega⟩
theorem Aw.nil (w : World) (ρ : Nat → Role) (r n c : Nat) : Aw w ρ r (.slice none n c) := fun x o m c e => by cases e

/-- what waits -/
def Wt (w : World) (v : Value) (ps : List (Change × Value)) : Prop := w.ownsRow 0 71 5 v ps.length (ps.flatMap chgList) ∧ ∀ q ∈ ps, Bs w q.2 q.1.bytes
theorem Wt.nil (w : World) : Wt w (.slice none 0 0) [] := ⟨World.ownsRow_nil _ _ _ _, fun q hq => by cases hq⟩

theorem owns_kept2 {S : Nat → Prop} {w w' : World} {base : Nat} {e : TypeId} {size : Nat} {v : Value} {n : Nat} {xs : List Value} (h : w.ownsRow base e size v n xs) (hk : Kp S w w') (hn : ∀ x o m c, v = .slice (some ⟨x, o, none⟩) m c → ¬ S x) : w'.ownsRow base e size v n xs := by
  refine owns_kept h hk fun k e2 => ?_
  rcases owns_any h with ⟨rfl, -⟩ | ⟨g, cap, rfl, -⟩
  · simp [Value.ownBlock] at e2
  · simp [Value.ownBlock] at e2
    subst e2
    exact hn _ _ _ _ rfl
theorem Fl.kept {S : Nat → Prop} {w w' : World} {v : Value} {l : List Fv} (h : Fl w v l) (hk : Kp S w w') (hv : ∀ x o m c, v = .slice (some ⟨x, o, none⟩) m c → ¬ S x) (hq : ∀ q ∈ l, q.2.2 ≠ [] → ∀ x o m c, q.2.1 = .slice (some ⟨x, o, none⟩) m c → ¬ S x) : Fl w' v l :=
  ⟨owns_kept2 h.1 hk hv, fun q hm => bs_keptE (h.2 q hm) hk (hq q hm)⟩
theorem Wt.kept {S : Nat → Prop} {w w' : World} {v : Value} {l : List (Change × Value)} (h : Wt w v l) (hk : Kp S w w') (hv : ∀ x o m c, v = .slice (some ⟨x, o, none⟩) m c → ¬ S x) (hq : ∀ q ∈ l, q.1.bytes ≠ [] → ∀ x o m c, q.2 = .slice (some ⟨x, o, none⟩) m c → ¬ S x) : Wt w' v l :=
  ⟨owns_kept2 h.1 hk hv, fun q hm => bs_keptE (h.2 q hm) hk (hq q hm)⟩

structure RS (w : World) (ρ : Nat → Role) (r : Nat) (x : RSt) (vs vn vw : Value) (ls ln : List Fv) (ps : List (Change × Value)) : Prop where
  at_ : RAt w r x vs vn vw
  fs : Fl w vs ls
  fn : Fl w vn ln
  fw : Wt w vw ps
  r0 : ρ r = .other
  sa : Aw w ρ r vs
  na : Aw w ρ r vn
  wa : Aw w ρ r vw
  bs : ∀ q ∈ ls, q.2.2 ≠ [] → Aw w ρ r q.2.1
  bn : ∀ q ∈ ln, q.2.2 ≠ [] → Aw w ρ r q.2.1
  bw : ∀ q ∈ ps, q.1.bytes ≠ [] → Aw w ρ r q.2

theorem RAt.kept {S : Nat → Prop} {w w' : World} {r : Nat} {x : RSt} {vs vn vw : Value} (h : RAt w r x vs vn vw) (hk : Kp S w w') (hr : ¬ S r) : RAt w' r x vs vn vw :=
  ⟨hk.cell' h.c0 hr, hk.cell' h.c1 hr, hk.cell' h.c2 hr, hk.cell' h.c3 hr, hk.cell' h.c4 hr, hk.cell' h.c5 hr, hk.cell' h.c6 hr, fun o => (hk.frozen (p := ⟨r, o, none⟩) h.lt hr).trans (h.warm o), Nat.lt_of_lt_of_le h.lt hk.size⟩

section
variable {w w' : World} {ρ ρ' : Nat → Role} {r : Nat} {x x' : RSt} {vs vn vw vs' vn' vw' : Value} {ls ln ls' ln' : List Fv} {ps ps' : List (Change × Value)}

/-- memory turns that is not the reference's -/
theorem RS.kept {S : Nat → Prop} (h : RS w ρ r x vs vn vw ls ln ps) (hk : Kp S w w') (hS : ∀ k, k < w.heap.size → S k → ρ k ≠ .other) (hρ : ∀ k, k < w.heap.size → ρ k = .other → ρ' k = .other) : RS w' ρ' r x vs vn vw ls ln ps := by
  have no : ∀ {v : Value}, Aw w ρ r v → ∀ x o m c, v = .slice (some ⟨x, o, none⟩) m c → ¬ S x := fun ha x o m c e hs => by
    obtain ⟨h1, -, h3⟩ := ha x o m c e
    exact hS x h3 hs h1
  have hz := hk.size
  exact ⟨h.at_.kept hk fun hs => hS r h.at_.lt hs h.r0, h.fs.kept hk (no h.sa) fun q hq hb => no (h.bs q hq hb), h.fn.kept hk (no h.na) fun q hq hb => no (h.bn q hq hb), h.fw.kept hk (no h.wa) fun q hq hb => no (h.bw q hq hb),
    hρ r h.at_.lt h.r0, h.sa.up hz hρ, h.na.up hz hρ, h.wa.up hz hρ, fun q hq hb => (h.bs q hq hb).up hz hρ, fun q hq hb => (h.bn q hq hb).up hz hρ, fun q hq hb => (h.bw q hq hb).up hz hρ⟩
theorem RS.no (h : RS w ρ r x vs vn vw ls ln ps) (hk : Kp No w w') : RS w' ρ r x vs vn vw ls ln ps := h.kept hk (fun _ _ s => s.elim) fun _ _ e => e
theorem RS.fr (h : RS w ρ r x vs vn vw ls ln ps) (hf : Fr ρ w ρ' w') : RS w' ρ' r x vs vn vw ls ln ps := h.kept hf.1 (fun _ _ s => s) hf.2

/-- the reference's own block turns -/
theorem RS.own (h : RS w ρ r x vs vn vw ls ln ps) (hk : Kp (fun k => k = r) w w') (ha : RAt w' r x' vs vn vw) : RS w' ρ r x' vs vn vw ls ln ps := by
  have no : ∀ {v : Value}, Aw w ρ r v → ∀ x o m c, v = .slice (some ⟨x, o, none⟩) m c → ¬ (x = r) := fun ha x o m c e hs => (ha x o m c e).2.1 hs
  have hz := hk.size
  have hρ : ∀ k, k < w.heap.size → ρ k = .other → ρ k = .other := fun _ _ e => e
  exact ⟨ha, h.fs.kept hk (no h.sa) fun q hq hb => no (h.bs q hq hb), h.fn.kept hk (no h.na) fun q hq hb => no (h.bn q hq hb), h.fw.kept hk (no h.wa) fun q hq hb => no (h.bw q hq hb),
    h.r0, h.sa.up hz hρ, h.na.up hz hρ, h.wa.up hz hρ, fun q hq hb => (h.bs q hq hb).up hz hρ, fun q hq hb => (h.bn q hq hb).up hz hρ, fun q hq hb => (h.bw q hq hb).up hz hρ⟩

/-- other lists stand in the block -/
theorem RS.put_now (h : RS w ρ r x vs vn vw ls ln ps) (hf : Fl w vn' ln') (ha : Aw w ρ r vn') (hb : ∀ q ∈ ln', q.2.2 ≠ [] → Aw w ρ r q.2.1) (hk : Kp (fun k => k = r) w w') (hat : RAt w' r x' vs vn' vw) : RS w' ρ r x' vs vn' vw ls ln' ps := by
  have h2 : RS w ρ r x vs vn' vw ls ln' ps → RS w' ρ r x' vs vn' vw ls ln' ps := fun h => h.own hk hat
  have no : ∀ {v : Value}, Aw w ρ r v → ∀ x o m c, v = .slice (some ⟨x, o, none⟩) m c → ¬ (x = r) := fun ha x o m c e hs => (ha x o m c e).2.1 hs
  have hz := hk.size
  have hρ : ∀ k, k < w.heap.size → ρ k = .other → ρ k = .other := fun _ _ e => e
  exact ⟨hat, h.fs.kept hk (no h.sa) fun q hq hb => no (h.bs q hq hb), hf.kept hk (no ha) fun q hq hb2 => no (hb q hq hb2), h.fw.kept hk (no h.wa) fun q hq hb => no (h.bw q hq hb),
    h.r0, h.sa.up hz hρ, ha.up hz hρ, h.wa.up hz hρ, fun q hq hb => (h.bs q hq hb).up hz hρ, fun q hq hb2 => (hb q hq hb2).up hz hρ, fun q hq hb => (h.bw q hq hb).up hz hρ⟩
theorem RS.put_wait (h : RS w ρ r x vs vn vw ls ln ps) (hf : Wt w vw' ps') (ha : Aw w ρ r vw') (hb : ∀ q ∈ ps', q.1.bytes ≠ [] → Aw w ρ r q.2) (hk : Kp (fun k => k = r) w w') (hat : RAt w' r x' vs vn vw') : RS w' ρ r x' vs vn vw' ls ln ps' := by
  have no : ∀ {v : Value}, Aw w ρ r v → ∀ x o m c, v = .slice (some ⟨x, o, none⟩) m c → ¬ (x = r) := fun ha x o m c e hs => (ha x o m c e).2.1 hs
  have hz := hk.size
  have hρ : ∀ k, k < w.heap.size → ρ k = .other → ρ k = .other := fun _ _ e => e
  exact ⟨hat, h.fs.kept hk (no h.sa) fun q hq hb => no (h.bs q hq hb), h.fn.kept hk (no h.na) fun q hq hb => no (h.bn q hq hb), hf.kept hk (no ha) fun q hq hb2 => no (hb q hq hb2),
    h.r0, h.sa.up hz hρ, h.na.up hz hρ, ha.up hz hρ, fun q hq hb => (h.bs q hq hb).up hz hρ, fun q hq hb => (h.bn q hq hb).up hz hρ, fun q hq hb2 => (hb q hq hb2).up hz hρ⟩
theorem RS.put_syn (h : RS w ρ r x vs vn vw ls ln ps) (hf : Fl w vs' ls') (ha : Aw w ρ r vs') (hb : ∀ q ∈ ls', q.2.2 ≠ [] → Aw w ρ r q.2.1) (hk : Kp (fun k => k = r) w w') (hat : RAt w' r x' vs' vn vw) : RS w' ρ r x' vs' vn vw ls' ln ps := by
  have no : ∀ {v : Value}, Aw w ρ r v → ∀ x o m c, v = .slice (some ⟨x, o, none⟩) m c → ¬ (x = r) := fun ha x o m c e hs => (ha x o m c e).2.1 hs
  have hz := hk.size
  have hρ : ∀ k, k < w.heap.size → ρ k = .other → ρ k = .other := fun _ _ e => e
  exact ⟨hat, hf.kept hk (no ha) fun q hq hb2 => no (hb q hq hb2), h.fn.kept hk (no h.na) fun q hq hb => no (h.bn q hq hb), h.fw.kept hk (no h.wa) fun q hq hb => no (h.bw q hq hb),
    h.r0, ha.up hz hρ, h.na.up hz hρ, h.wa.up hz hρ, fun q hq hb2 => (hb q hq hb2).up hz hρ, fun q hq hb => (h.bn q hq hb).up hz hρ, fun q hq hb => (h.bw q hq hb).up hz hρ⟩
end

theorem bs_lt {w : World} {v : Value} {bs : List UInt8} (h : Bs w v bs) (hne : bs ≠ []) {x o m c : Nat} (e : v = .slice (some ⟨x, o, none⟩) m c) : x < w.heap.size := by
  subst e
  obtain ⟨_, _, e, _, _, h3⟩ := h
  simp only [Value.slice.injEq] at e
  obtain ⟨b', o', e2, hc⟩ := h3 hne
  rw [← e.1] at e2
  cases e2
  exact World.block_lt_of_cell? w _ (hc 0 (List.length_pos_iff.2 hne))
theorem fl_lt {w : World} {v : Value} {l : List Fv} (h : Fl w v l) {x o m c : Nat} (e : v = .slice (some ⟨x, o, none⟩) m c) : x < w.heap.size := by
  rcases owns_any h.1 with ⟨rfl, -⟩ | ⟨g, cap, rfl, -, hg, -⟩
  · cases e
  · cases e; exact hg

/-- what is newly made is nobody's -/
theorem newly_aw {w' : World} {ρ : Nat → Role} {r b : Nat} {l l' : List Fv} {v' : Value} (hn : Newly b l v' l') (hf : Fl w' v' l') (hρ : ∀ k, b ≤ k → ρ k = .other) (hr : r < b) (hb : b ≤ w'.heap.size) (hl : ∀ q ∈ l, q.2.2 ≠ [] → Aw w' ρ r q.2.1) :
    Aw w' ρ r v' ∧ ∀ q ∈ l', q.2.2 ≠ [] → Aw w' ρ r q.2.1 := by
  refine ⟨fun x o m c e => ?_, fun q hq hne => ?_⟩
  · have := hn.1 x o m c e
    exact ⟨hρ x this, by omega, fl_lt hf e⟩
  · rcases hn.2 q hq with h | h
    · exact hl q h hne
    · intro x o m c e
      have := h x o m c e
      exact ⟨hρ x this, by omega, bs_lt (hf.2 q hq) hne e⟩

/-- the disk's memory is not where the reference's block is -/
theorem Dk.beside {w w' : World} {base p r : Nat} {ρ : Nat → Role} {d : DSt} (h : Dk w base p ρ d) (hk : Kp (fun k => k = r) w w') (hr : ρ r = .other) : Dk w' base p ρ d := by
  obtain ⟨s, n, vp, ps, h⟩ := h
  have hp : ¬ p = r := fun e => by have := h.rp; rw [e, hr] at this; cases this
  have hss : ¬ s = r := fun e => by have := h.rs; rw [e, hr] at this; cases this
  have hnn : ¬ n = r := fun e => by have := h.rn; rw [e, hr] at this; cases this
  refine ⟨s, n, vp, ps, hk.cell' h.c0 hp, hk.cell' h.c1 hp, hk.cell' h.c2 hp, hk.cell' h.c3 hp, hk.cell' h.c4 hp, hk.cell' h.c5 hp, fun o => (hk.frozen (p := ⟨p, o, none⟩) h.lt hp).trans (h.warm o), ?_, ?_, h.cs, ?_, ?_, h.rp, h.rs, h.rn, h.rv, h.bp, h.low, fun k hk2 => h.hi k (Nat.le_trans hk.size hk2)⟩
  · refine h.syn.kept hk (fun k _ e => ⟨fun e2 => hss (e2 ▸ e), fun m hm => ?_⟩) fun _ _ => rfl
    rw [e] at hm
    unfold sOf at hm
    rw [hr] at hm
    cases hm
  · refine h.now.kept hk (fun k _ e => ⟨fun e2 => hnn (e2 ▸ e), fun m hm => ?_⟩) fun _ _ => rfl
    rw [e] at hm
    unfold nOf at hm
    rw [hr] at hm
    cases hm
  · refine owns_kept h.pend hk fun k e e2 => ?_
    have := h.rv k e
    rw [e2, hr] at this
    cases this
  · intro q hq
    refine ⟨bs_kept (h.byts q hq).1 hk fun x o m c e e2 => ?_, fun x o m c e => ⟨((h.byts q hq).2 x o m c e).1, Nat.lt_of_lt_of_le ((h.byts q hq).2 x o m c e).2 hk.size⟩⟩
    have := ((h.byts q hq).2 x o m c e).1
    rw [e2, hr] at this
    cases this

end Go.Proofs.YtomckoeobkfklaaDoor.r2
