/- What is done to a Disk: a change, what is settled, what is torn. (*Disk).change: something done now, and pending. (*Disk).settle: the first of what is pending is done for good. -/
import Derived.Test.YtmehneicdklfeaaGreatFsUsedM
import Derived.Deep.AppendLies
import Derived.Deep.RegionLaw

namespace Go.Proofs.YtmehneicdklfeaaGreat.dsk
open Go.RowKit Go.Maps Go.Proofs.YtmehneicdklfeaaGreat.sum Go.Proofs.YtmehneicdklfeaaGreat.kept Go.Proofs.YtmehneicdklfeaaGreat.app Go.Proofs.YtmehneicdklfeaaGreat.writer Go.Proofs.YtmehneicdklfeaaGreat.clone Go.Proofs.YtmehneicdklfeaaGreat.fs Go.Proofs.YtmehneicdklfeaaGreat.fsMem Go.Proofs.YtmehneicdklfeaaGreat.fsDo Go.Proofs.YtmehneicdklfeaaGreat.fsUsed Go.Proofs.YtmehneicdklfeaaGreat.turned
set_option linter.unusedVariables false

/-- behind something done to what is there now -/
theorem DkAt.after_now {w W0 w1 : World} {base p : Nat} {ρ : Nat → Role} {d : DSt} {nw fs' : Files} {s n : Nat} {vp : Value} {ps : List (Change × Value)} {e : Ending} (h' : DkAt w base p ρ d nw s n vp ps) (hk0 : Kp No w W0) (hd : DoPost base n (nOf ρ) W0 fs' e w1) :
    ∃ ρ', DkAt w1 base p ρ' d fs' s n vp ps ∧ Fr ρ w ρ' w1 ∧ ∀ k, k < w.heap.size → (∀ m, ρ k ≠ .nrow m) → ρ' k = ρ k := by
  have h := h'.no hk0
  obtain ⟨-, ρn, hfm, hkp, hsub⟩ := hd
  have hsz := hkp.size
  have hs0 := hk0.size
  obtain ⟨ρ1, hρ1⟩ : ∃ ρ1 : Nat → Role, ρ1 = fun k => if k < W0.heap.size then (match ρ k with | .nrow _ => (match ρn k with | some m => .nrow m | none => .other) | r => r) else if k < w1.heap.size then (match ρn k with | some m => .nrow m | none => .other) else .other := ⟨_, rfl⟩
  have keep : ∀ k, k < W0.heap.size → (∀ m, ρ k ≠ .nrow m) → ρ1 k = ρ k := fun k hk hn => by
    rw [hρ1]; simp only [if_pos hk]
    all_goals (cases hr : ρ k <;> first | exact absurd hr (hn _) | rfl)
  have sub : ∀ k, k < W0.heap.size → (∀ m, ρ k ≠ .nrow m) → ρn k = none := fun k hk hn => by
    cases hh : ρn k with
    | none => rfl
    | some m =>
      have := hsub k hk (by rw [hh]; rfl)
      rw [nOf_none hn] at this
      cases this
  have xof : ∀ k, k < w1.heap.size → nOf ρ1 k = ρn k := by
    intro k hk
    by_cases hk0 : k < W0.heap.size
    · by_cases hn : ∀ m, ρ k ≠ .nrow m
      · rw [sub k hk0 hn]
        exact nOf_none (by rw [keep k hk0 hn]; exact hn)
      · have hn2 := Classical.not_forall.1 hn
        obtain ⟨m, hm⟩ := hn2
        have hm := Classical.not_not.1 hm
        unfold nOf
        rw [hρ1]; simp only; rw [if_pos hk0, hm]
        cases ρn k <;> rfl
    · unfold nOf
      rw [hρ1]; simp only; rw [if_neg hk0, if_pos hk]
      cases ρn k <;> rfl
  have yof : ∀ k, k < W0.heap.size → sOf ρ1 k = sOf ρ k := by
    intro k hk
    by_cases hn : ∀ m, ρ k ≠ .nrow m
    · unfold sOf; rw [keep k hk hn]
    · obtain ⟨m, hm⟩ := Classical.not_forall.1 hn
      have hm := Classical.not_not.1 hm
      have e1 : sOf ρ k = none := sOf_none (by rw [hm]; simp)
      rw [e1]
      refine sOf_none fun x => ?_
      rw [hρ1]; simp only; rw [if_pos hk, hm]
      cases ρn k <;> simp
  have notS : ∀ k, (∀ m, ρ k ≠ .nrow m) → k ≠ n → ¬ (k = n ∨ (nOf ρ k).isSome = true) := by
    rintro k hn hne (e | e)
    · exact hne e
    · rw [nOf_none hn] at e; cases e
  have hpn : p ≠ n := fun e => by have := h.rp; rw [e, h.rn] at this; cases this
  have hp : ¬ (p = n ∨ (nOf ρ p).isSome = true) := notS p (by rw [h.rp]; simp) hpn
  refine ⟨ρ1, ⟨hkp.cell' h.c0 hp, hkp.cell' h.c1 hp, hkp.cell' h.c2 hp, hkp.cell' h.c3 hp, hkp.cell' h.c4 hp, hkp.cell' h.c5 hp, fun o => (hkp.frozen (p := ⟨p, o, none⟩) h.lt hp).trans (h.warm o), (h.syn.kept hkp (fun k hk e => ⟨fun e2 => (by rw [e2] at e; exact notS s (by rw [h.rs]; simp) (fun e3 => by have := h.rs; rw [e3, h.rn] at this; cases this) e), fun m hm => (by
      rcases e with e | e
      · rw [e, sOf_none (by rw [h.rn]; simp)] at hm; cases hm
      · by_cases hn : ∀ m, ρ k ≠ .nrow m
        · rw [nOf_none hn] at e; cases e
        · obtain ⟨m2, hm2⟩ := Classical.not_forall.1 hn
          rw [sOf_none (by rw [Classical.not_not.1 hm2]; simp)] at hm; cases hm)⟩) yof), (hfm.kept (Kp.refl No w1) (fun _ _ x => x.elim) xof), h.cs, owns_kept h.pend hkp fun k hk => ?_,
    fun q hq => ⟨bs_kept (h.byts q hq).1 hkp fun x o m c e => ?_, fun x o m c e => ?_⟩, ?_, ?_, ?_, fun g hg => ?_, h.bp, fun k hk => ?_, fun k hk => ?_⟩, ⟨hk0.to.trans hkp ?_, fun k hk e => ?_⟩, fun k hk hn => keep k (by omega) hn⟩
  · have hr := h.rv k hk
    exact notS k (by rw [hr]; simp) (fun e => by rw [e, h.rn] at hr; cases hr)
  · have hr := ((h.byts q hq).2 x o m c e).1
    exact notS x (by rw [hr]; simp) (fun e => by rw [e, h.rn] at hr; cases hr)
  · have hr := (h.byts q hq).2 x o m c e
    exact ⟨by rw [keep x hr.2 (by rw [hr.1]; simp)]; exact hr.1, by omega⟩
  · rw [keep p h.lt (by rw [h.rp]; simp)]; exact h.rp
  · rw [keep s h.syn.lt (by rw [h.rs]; simp)]; exact h.rs
  · rw [keep n h.now.lt (by rw [h.rn]; simp)]; exact h.rn
  · have hr := h.rv g hg
    rw [keep g (h.pend.lt g hg).2 (by rw [hr]; simp)]; exact hr
  · by_cases hk0 : k < W0.heap.size
    · by_cases hn : ∀ m, ρ k ≠ .nrow m
      · rw [keep k hk0 hn] at hk; exact h.low k hk
      · obtain ⟨m, hm⟩ := Classical.not_forall.1 hn
        exact h.low k (by rw [Classical.not_not.1 hm]; simp)
    · have := h.bp; have := h.lt; omega
  · rw [hρ1]; simp only; rw [if_neg (by omega), if_neg (by omega)]
  · rintro k hk (e | e) e2
    · rw [e, h.rn] at e2; cases e2
    · rw [nOf_none (by rw [e2]; simp)] at e; cases e
  · rw [keep k (by omega) (by rw [e]; simp)]; exact e

/-- behind something done to what was synced -/
theorem DkAt.after_syn {w W0 w1 : World} {base p : Nat} {ρ : Nat → Role} {d : DSt} {nw fs' : Files} {s n : Nat} {vp : Value} {ps : List (Change × Value)} {e : Ending} (h' : DkAt w base p ρ d nw s n vp ps) (hk0 : Kp No w W0) (hd : DoPost base s (sOf ρ) W0 fs' e w1) :
    ∃ ρ', DkAt w1 base p ρ' { d with syn := fs' } nw s n vp ps ∧ Fr ρ w ρ' w1 ∧ ∀ k, k < w.heap.size → (∀ m, ρ k ≠ .srow m) → ρ' k = ρ k := by
  have h := h'.no hk0
  obtain ⟨-, ρn, hfm, hkp, hsub⟩ := hd
  have hsz := hkp.size
  have hs0 := hk0.size
  obtain ⟨ρ1, hρ1⟩ : ∃ ρ1 : Nat → Role, ρ1 = fun k => if k < W0.heap.size then (match ρ k with | .srow _ => (match ρn k with | some m => .srow m | none => .other) | r => r) else if k < w1.heap.size then (match ρn k with | some m => .srow m | none => .other) else .other := ⟨_, rfl⟩
  have keep : ∀ k, k < W0.heap.size → (∀ m, ρ k ≠ .srow m) → ρ1 k = ρ k := fun k hk hn => by
    rw [hρ1]; simp only [if_pos hk]
    all_goals (cases hr : ρ k <;> first | exact absurd hr (hn _) | rfl)
  have sub : ∀ k, k < W0.heap.size → (∀ m, ρ k ≠ .srow m) → ρn k = none := fun k hk hn => by
    cases hh : ρn k with
    | none => rfl
    | some m =>
      have := hsub k hk (by rw [hh]; rfl)
      rw [sOf_none hn] at this
      cases this
  have xof : ∀ k, k < w1.heap.size → sOf ρ1 k = ρn k := by
    intro k hk
    by_cases hk0 : k < W0.heap.size
    · by_cases hn : ∀ m, ρ k ≠ .srow m
      · rw [sub k hk0 hn]
        exact sOf_none (by rw [keep k hk0 hn]; exact hn)
      · have hn2 := Classical.not_forall.1 hn
        obtain ⟨m, hm⟩ := hn2
        have hm := Classical.not_not.1 hm
        unfold sOf
        rw [hρ1]; simp only; rw [if_pos hk0, hm]
        cases ρn k <;> rfl
    · unfold sOf
      rw [hρ1]; simp only; rw [if_neg hk0, if_pos hk]
      cases ρn k <;> rfl
  have yof : ∀ k, k < W0.heap.size → nOf ρ1 k = nOf ρ k := by
    intro k hk
    by_cases hn : ∀ m, ρ k ≠ .srow m
    · unfold nOf; rw [keep k hk hn]
    · obtain ⟨m, hm⟩ := Classical.not_forall.1 hn
      have hm := Classical.not_not.1 hm
      have e1 : nOf ρ k = none := nOf_none (by rw [hm]; simp)
      rw [e1]
      refine nOf_none fun x => ?_
      rw [hρ1]; simp only; rw [if_pos hk, hm]
      cases ρn k <;> simp
  have notS : ∀ k, (∀ m, ρ k ≠ .srow m) → k ≠ s → ¬ (k = s ∨ (sOf ρ k).isSome = true) := by
    rintro k hn hne (e | e)
    · exact hne e
    · rw [sOf_none hn] at e; cases e
  have hpn : p ≠ s := fun e => by have := h.rp; rw [e, h.rs] at this; cases this
  have hp : ¬ (p = s ∨ (sOf ρ p).isSome = true) := notS p (by rw [h.rp]; simp) hpn
  refine ⟨ρ1, ⟨hkp.cell' h.c0 hp, hkp.cell' h.c1 hp, hkp.cell' h.c2 hp, hkp.cell' h.c3 hp, hkp.cell' h.c4 hp, hkp.cell' h.c5 hp, fun o => (hkp.frozen (p := ⟨p, o, none⟩) h.lt hp).trans (h.warm o), (hfm.kept (Kp.refl No w1) (fun _ _ x => x.elim) xof), (h.now.kept hkp (fun k hk e => ⟨fun e2 => (by rw [e2] at e; exact notS n (by rw [h.rn]; simp) (fun e3 => by have := h.rn; rw [e3, h.rs] at this; cases this) e), fun m hm => (by
      rcases e with e | e
      · rw [e, nOf_none (by rw [h.rs]; simp)] at hm; cases hm
      · by_cases hn : ∀ m, ρ k ≠ .srow m
        · rw [sOf_none hn] at e; cases e
        · obtain ⟨m2, hm2⟩ := Classical.not_forall.1 hn
          rw [nOf_none (by rw [Classical.not_not.1 hm2]; simp)] at hm; cases hm)⟩) yof), h.cs, owns_kept h.pend hkp fun k hk => ?_,
    fun q hq => ⟨bs_kept (h.byts q hq).1 hkp fun x o m c e => ?_, fun x o m c e => ?_⟩, ?_, ?_, ?_, fun g hg => ?_, h.bp, fun k hk => ?_, fun k hk => ?_⟩, ⟨hk0.to.trans hkp ?_, fun k hk e => ?_⟩, fun k hk hn => keep k (by omega) hn⟩
  · have hr := h.rv k hk
    exact notS k (by rw [hr]; simp) (fun e => by rw [e, h.rs] at hr; cases hr)
  · have hr := ((h.byts q hq).2 x o m c e).1
    exact notS x (by rw [hr]; simp) (fun e => by rw [e, h.rs] at hr; cases hr)
  · have hr := (h.byts q hq).2 x o m c e
    exact ⟨by rw [keep x hr.2 (by rw [hr.1]; simp)]; exact hr.1, by omega⟩
  · rw [keep p h.lt (by rw [h.rp]; simp)]; exact h.rp
  · rw [keep s h.syn.lt (by rw [h.rs]; simp)]; exact h.rs
  · rw [keep n h.now.lt (by rw [h.rn]; simp)]; exact h.rn
  · have hr := h.rv g hg
    rw [keep g (h.pend.lt g hg).2 (by rw [hr]; simp)]; exact hr
  · by_cases hk0 : k < W0.heap.size
    · by_cases hn : ∀ m, ρ k ≠ .srow m
      · rw [keep k hk0 hn] at hk; exact h.low k hk
      · obtain ⟨m, hm⟩ := Classical.not_forall.1 hn
        exact h.low k (by rw [Classical.not_not.1 hm]; simp)
    · have := h.bp; have := h.lt; omega
  · rw [hρ1]; simp only; rw [if_neg (by omega), if_neg (by omega)]
  · rintro k hk (e | e) e2
    · rw [e, h.rs] at e2; cases e2
    · rw [sOf_none (by rw [e2]; simp)] at e; cases e
  · rw [keep k (by omega) (by rw [e]; simp)]; exact e

/-- one more that is pending -/
theorem DkAt.push {w W2 w3 : World} {base p : Nat} {ρ : Nat → Role} {d : DSt} {nw : Files} {s n : Nat} {vp v' : Value} {ps : List (Change × Value)} {c : Change} {vb : Value} (h' : DkAt w base p ρ d nw s n vp ps) (hk0 : Kp No w W2)
    (hb : Bs w vb c.bytes) (hvb : ∀ x o m cc, vb = .slice (some ⟨x, o, none⟩) m cc → ρ x = .byt ∧ x < w.heap.size)
    (ho : w3.ownsRow base 80 5 v' (ps.length + 1) (ps.flatMap chgList ++ chgList (c, vb))) (hg : W2.grownBy w3 vp.ownBlock) (hloc : v'.ownBlock = vp.ownBlock ∨ v'.ownBlock = some W2.heap.size) :
    ∃ ρ', DkAt (w3.setCell ⟨p, 5, none⟩ v') base p ρ' { d with cs := d.cs ++ [c] } nw s n v' (ps ++ [(c, vb)]) ∧ Fr ρ w ρ' (w3.setCell ⟨p, 5, none⟩ v') := by
  have h := h'.no hk0
  have kg : Kp (fun k => some k = vp.ownBlock) W2 w3 := (Kp.refl _ W2).grown hg fun k _ e => e.symm
  have hs0 := hk0.size
  have hs3 := kg.size
  have hss : (w3.setCell ⟨p, 5, none⟩ v').heap.size = w3.heap.size := by simp [World.setCell]
  obtain ⟨ρ1, hρ1⟩ : ∃ ρ1 : Nat → Role, ρ1 = fun k => if some k = v'.ownBlock then .pend else ρ k := ⟨_, rfl⟩
  have hpp : ∀ k, k < W2.heap.size → some k = v'.ownBlock → ρ k = .pend := fun k hk e => by
    rcases hloc with e2 | e2
    · exact h.rv k (by rw [← e2]; exact e.symm)
    · rw [e2] at e; have := Option.some.inj e; omega
  have keep : ∀ k, k < W2.heap.size → ρ1 k = ρ k := fun k hk => by
    rw [hρ1]; simp only; split
    · rename_i e; exact (hpp k hk e).symm
    · rfl
  have kp : Kp (fun k => some k = vp.ownBlock ∨ k = p) W2 (w3.setCell ⟨p, 5, none⟩ v') := (kg.mono fun _ _ e => Or.inl e).trans (kp_p w3 p 5 v') fun i hi e => Or.inr e
  have notp : ¬ some p = vp.ownBlock := fun e => by have := h.rv p e.symm; rw [h.rp] at this; cases this
  have gp : Kp (fun k => some k = vp.ownBlock) W2 w3 := kg
  have d0 := gp.cell' h.c0 notp
  have d1 := gp.cell' h.c1 notp
  have d2 := gp.cell' h.c2 notp
  have d3 := gp.cell' h.c3 notp
  have d4 := gp.cell' h.c4 notp
  have d5 := gp.cell' h.c5 notp
  have df : ∀ o, w3.frozen? ⟨p, o, none⟩ = false := fun o => (gp.frozen (p := ⟨p, o, none⟩) h.lt notp).trans (h.warm o)
  have notS : ∀ k, ρ k ≠ .pend → ρ k ≠ .disk → ¬ (some k = vp.ownBlock ∨ k = p) := by
    rintro k h1 h2 (e | e)
    · exact h1 (h.rv k e.symm)
    · rw [e] at h2; exact h2 h.rp
  have hpo : ∀ k, v'.ownBlock = some k → ¬ k = p := fun k e e2 => by
    have hk : k < W2.heap.size := by rw [e2]; exact h.lt
    have := hpp k hk e.symm
    rw [e2, h.rp] at this
    cases this
  refine ⟨ρ1, ⟨cell_ne d0 (by omega), cell_ne d1 (by omega), cell_ne d2 (by omega), cell_ne d3 (by omega), cell_ne d4 (by omega), World.cell?_setCell_same w3 _ _ d5, warm_set df, ?_, ?_, ?_, ?_, fun q hq => ?_, ?_, ?_, ?_, fun g hg => ?_, h.bp, fun k hk => ?_, fun k hk => ?_⟩, ⟨hk0.to.trans kp ?_, fun k hk e => ?_⟩⟩
  · refine h.syn.kept kp (fun k hk e => ⟨fun e2 => ?_, fun m hm => ?_⟩) fun k hk => by unfold sOf; rw [keep k hk]
    · rw [e2] at e; exact notS s (by rw [h.rs]; simp) (by rw [h.rs]; simp) e
    · exfalso
      have : ∀ x, ρ k ≠ .srow x := by
        intro x e9
        exact notS k (by rw [e9]; simp) (by rw [e9]; simp) e
      rw [sOf_none this] at hm; cases hm
  · refine h.now.kept kp (fun k hk e => ⟨fun e2 => ?_, fun m hm => ?_⟩) fun k hk => by unfold nOf; rw [keep k hk]
    · rw [e2] at e; exact notS n (by rw [h.rn]; simp) (by rw [h.rn]; simp) e
    · exfalso
      have : ∀ x, ρ k ≠ .nrow x := by
        intro x e9
        exact notS k (by rw [e9]; simp) (by rw [e9]; simp) e
      rw [nOf_none this] at hm; cases hm
  · rw [List.map_append, h.cs]; rfl
  · rw [List.flatMap_append, List.length_append]
    have e : ([(c, vb)] : List (Change × Value)).flatMap chgList = chgList (c, vb) := by simp
    rw [e]
    exact owns_kept ho (kp_p w3 p 5 v') hpo
  · rcases List.mem_append.1 hq with hq | hq
    · have hby := h.byts q hq
      refine ⟨bs_kept hby.1 kp fun x o m cc e => notS x (by rw [(hby.2 x o m cc e).1]; simp) (by rw [(hby.2 x o m cc e).1]; simp), fun x o m cc e => ⟨by rw [keep x (hby.2 x o m cc e).2]; exact (hby.2 x o m cc e).1, by have := (hby.2 x o m cc e).2; omega⟩⟩
    · simp only [List.mem_singleton] at hq
      subst hq
      refine ⟨bs_kept (bs_no hb hk0) kp fun x o m cc e => notS x (by rw [(hvb x o m cc e).1]; simp) (by rw [(hvb x o m cc e).1]; simp), fun x o m cc e => ⟨by rw [keep x (by have := (hvb x o m cc e).2; omega)]; exact (hvb x o m cc e).1, by have := (hvb x o m cc e).2; omega⟩⟩
  · rw [keep p h.lt]; exact h.rp
  · rw [keep s h.syn.lt]; exact h.rs
  · rw [keep n h.now.lt]; exact h.rn
  · rw [hρ1]; simp [hg]
  · rw [hρ1] at hk
    simp only at hk
    split at hk
    · rename_i e; exact (ho.lt k e.symm).1
    · exact h.low k hk
  · rw [hρ1]
    simp only
    rw [if_neg (fun e => by have := (ho.lt k e.symm).2; omega)]
    exact h.hi k (by omega)
  · rintro k hk (e | e) e2
    · have := h.rv k e.symm; rw [e2] at this; cases this
    · rw [e, h.rp] at e2; cases e2
  · rw [keep k (by omega)]; exact e

theorem infoC : (Tryz.prog.info? 80).map (fun i => (i.zero, i.size, i.bytes)) = some (some (.agg #[.int .i64 0, .string ByteArray.empty, .string ByteArray.empty, .slice none 0 0, .int .i64 0]), 5, 72) := by kernel_rfl

end Go.Proofs.YtmehneicdklfeaaGreat.dsk

namespace Go.Proofs.YtmehneicdklfeaaGreat.dsk
open Go.RowKit Go.Maps Go.Proofs.YtmehneicdklfeaaGreat.sum Go.Proofs.YtmehneicdklfeaaGreat.kept Go.Proofs.YtmehneicdklfeaaGreat.app Go.Proofs.YtmehneicdklfeaaGreat.writer Go.Proofs.YtmehneicdklfeaaGreat.clone Go.Proofs.YtmehneicdklfeaaGreat.fs Go.Proofs.YtmehneicdklfeaaGreat.fsMem Go.Proofs.YtmehneicdklfeaaGreat.fsDo Go.Proofs.YtmehneicdklfeaaGreat.fsUsed Go.Proofs.YtmehneicdklfeaaGreat.turned
set_option linter.unusedVariables false

def ChPost (base p : Nat) (ρ : Nat → Role) (d : DSt) (nw : Files) (w : World) (e : Ending) (w' : World) : Prop :=
  e = .returned (.tuple #[]) ∧ ∃ ρ' s n vp ps, DkAt w' base p ρ' d nw s n vp ps ∧ Fr ρ w ρ' w'

theorem chg_oneCell {c : Change} {vb : Value} (h : vb.oneCell' = true) : ∀ u ∈ chgList (c, vb), u.oneCell' = true := by
  intro u hu
  simp only [chgList, List.mem_cons, List.not_mem_nil, or_false] at hu
  rcases hu with rfl | rfl | rfl | rfl | rfl <;> first | rfl | exact h

set_option maxRecDepth 100000 in
set_option maxHeartbeats 4000000 in
theorem change_any (w : World) (base p : Nat) (ρ : Nat → Role) (d : DSt) (nw : Files) (s n : Nat) (vp : Value) (ps : List (Change × Value)) (c : Change) (vb : Value) (h : DkAt w base p ρ d nw s n vp ps)
    (hf : c.fits nw) (hb : Bs w vb c.bytes) (hvb : ∀ x o m cc, vb = .slice (some ⟨x, o, none⟩) m cc → ρ x = .byt ∧ x < w.heap.size) (hs : c.name.size ≤ maxLen) (hst : c.to.size ≤ maxLen) (hl : nw.length < maxLen)
    (hlen : c.kind = 0 → (old nw (nm c.name)).length + c.bytes.length ≤ 140737488355328) (hps : ps.length ≤ 1000000000000) :
    Calls Tryz.prog 48 #[.pointer (some ⟨p, 0, none⟩), chg c vb] w (ChPost base p ρ { d with cs := d.cs ++ [c] } (doit nw c) w) := by
  obtain ⟨i0, hi, hz0, hz1, hz2⟩ := info_parts infoC
  obtain ⟨ab, lb, cb, rfl⟩ : ∃ ab lb cb, vb = .slice ab lb cb := by obtain ⟨a, c, e, -⟩ := hb; exact ⟨_, _, _, e⟩
  generalize hcv : (Value.slice ab lb cb) = vb at *
  have hone : vb.oneCell' = true := by rw [← hcv]; rfl
  obtain ⟨W0, hW0⟩ : ∃ W0, W0 = (w.alloc (.cells #[.int .i64 (c.kind : Int), .string c.name, .string c.to, vb, .int .i64 (c.size : Int)] 80)).drew := ⟨_, rfl⟩
  have k0 : Kp No w W0 := by rw [hW0]; exact ((Kp.refl No w).alloc _).drew
  have h0 := h.no k0
  have hd := do_any W0 base n (nOf ρ) nw c vb h0.now hf (bs_no hb k0) hs hst hl hlen
  have HD := Hid_mk hd
  have c4 : W0.cell? ⟨p, 4, none⟩ = some (.map (some n)) := h0.c4
  have b0 : W0.cell? ⟨w.heap.size, 0, none⟩ = some (.int .i64 (c.kind : Int)) := by rw [hW0]; simp
  have b1 : W0.cell? ⟨w.heap.size, 1, none⟩ = some (.string c.name) := by rw [hW0]; simp
  have b2 : W0.cell? ⟨w.heap.size, 2, none⟩ = some (.string c.to) := by rw [hW0]; simp
  have b3 : W0.cell? ⟨w.heap.size, 3, none⟩ = some vb := by rw [hW0]; simp
  have b4 : W0.cell? ⟨w.heap.size, 4, none⟩ = some (.int .i64 (c.size : Int)) := by rw [hW0]; simp
  have H := Hid_mk h
  have HB := Hid_mk hb
  have HVB := Hid_mk hvb
  have hcall : Calls Tryz.prog 67 #[.map (some n), chg c vb] W0 fun e w1 => e = .returned (.tuple #[]) ∧ Kp (fun k => k = n ∨ (nOf ρ k).isSome = true) W0 w1 ∧ w1.cell? ⟨p, 4, none⟩ = some (.map (some n)) ∧
      w1.cell? ⟨w.heap.size, 0, none⟩ = some (.int .i64 (c.kind : Int)) ∧ w1.cell? ⟨w.heap.size, 1, none⟩ = some (.string c.name) ∧ w1.cell? ⟨w.heap.size, 2, none⟩ = some (.string c.to) ∧ w1.cell? ⟨w.heap.size, 3, none⟩ = some vb ∧ w1.cell? ⟨w.heap.size, 4, none⟩ = some (.int .i64 (c.size : Int)) ∧
      Hid (∃ ρ1, DkAt w1 base p ρ1 d (doit nw c) s n vp ps ∧ Fr ρ w ρ1 w1 ∧ ∀ k, k < w.heap.size → (∀ m, ρ k ≠ .nrow m) → ρ1 k = ρ k) := by
    refine hd.mono ?_
    intro e w1 hpost
    obtain ⟨he, ρn, hfm, hkp, hsub⟩ := id hpost
    have hq : ¬ (w.heap.size = n ∨ (nOf ρ w.heap.size).isSome = true) := by
      rintro (e | e)
      · have := h.now.lt; omega
      · rw [nOf_none (by rw [h.hi _ (Nat.le_refl _)]; simp)] at e; cases e
    have hp : ¬ (p = n ∨ (nOf ρ p).isSome = true) := by
      rintro (e | e)
      · have := h.rp; rw [e, h.rn] at this; cases this
      · rw [nOf_none (by rw [h.rp]; simp)] at e; cases e
    exact ⟨he, hkp, hkp.cell' c4 hp, hkp.cell' b0 hq, hkp.cell' b1 hq, hkp.cell' b2 hq, hkp.cell' b3 hq, hkp.cell' b4 hq, Hid_mk (h.after_now k0 hpost)⟩
  unfold chg at hcall ⊢
  rw [← hcv] at *
  have HC := Hid_mk hcall
  subst hW0
  clear hcall hd h0 k0 h hb hvb hf hs hst hl hlen HD
  go_enter Tryz.func48, Tryz.ntmps48
  go_wp2
  go_region_held3 (fun W => W.cell? ⟨p, 4, none⟩ = some (.map (some n)) ∧ W.cell? ⟨w.heap.size, 0, none⟩ = some (.int .i64 (c.kind : Int)) ∧ W.cell? ⟨w.heap.size, 1, none⟩ = some (.string c.name) ∧ W.cell? ⟨w.heap.size, 2, none⟩ = some (.string c.to) ∧
      W.cell? ⟨w.heap.size, 3, none⟩ = some (.slice ab lb cb) ∧ W.cell? ⟨w.heap.size, 4, none⟩ = some (.int .i64 (c.size : Int)))
    (first
      | go_keep
      | (dsimp only; exact ⟨c4, b0, b1, b2, b3, b4⟩)
      | assumption)
    ((go_at_call 67; (with_reducible refine HC.out.mono ?_); rintro e w1 ⟨rfl, hk1, g4, g0, g1, g2, g3, g5, hex⟩))
  obtain ⟨ρ1, h1, hfr1, hrole⟩ := hex.out
  have hbs1 : Bs w1 (.slice ab lb cb) c.bytes := bs_kept (bs_no HB.out ((Kp.refl No w).alloc _).drew) hk1 fun x o m cc e => by
    obtain ⟨r1, r2⟩ := HVB.out x o m cc e
    rintro (e2 | e2)
    · rw [e2, H.out.rn] at r1; cases r1
    · rw [nOf_none (by rw [r1]; simp)] at e2; cases e2
  have hvb1 : ∀ x o m cc, (Value.slice ab lb cb) = .slice (some ⟨x, o, none⟩) m cc → ρ1 x = .byt ∧ x < w1.heap.size := fun x o m cc e => by
    obtain ⟨r1, r2⟩ := HVB.out x o m cc e
    have hs1 := hfr1.1.size
    exact ⟨by rw [hrole x r2 (by rw [r1]; simp)]; exact r1, by omega⟩
  have k12 : Kp No w1 (w1.alloc (.cells #[.int .i64 (c.kind : Int), .string c.name, .string c.to, .slice ab lb cb, .int .i64 (c.size : Int)] 80)).drew := ((Kp.refl No w1).alloc _).drew
  have hown2 := owns_kept h1.pend k12 fun _ _ => id
  have hbase : base ≤ (w1.alloc (.cells #[.int .i64 (c.kind : Int), .string c.name, .string c.to, .slice ab lb cb, .int .i64 (c.size : Int)] 80)).drew.heap.size := by have := h1.bp; have := h1.lt; simp; omega
  obtain ⟨v', w3, hr3, ho3, hg3, -, hloc⟩ := run_append_own_at (P := Tryz.prog) _ base 74 74 80 i0 (.agg #[.int .i64 0, .string ByteArray.empty, .string ByteArray.empty, .slice none 0 0, .int .i64 0]) 5 72 Tryz.underlying74 hi hz0 hz1 hz2 rfl (by decide) vp ps.length _ hown2
    ⟨w1.heap.size, 0, none⟩ 1 1 (chgList (c, .slice ab lb cb)) rfl (World.news_of_block (cs := (chgList (c, .slice ab lb cb)).toArray) (t := 80) (fr := (0, 0)) (heap_alloc_new w1 _)) (chg_oneCell hone) (by unfold maxLen; omega) (by omega) hbase
  obtain ⟨ρ2, h2, hfr2⟩ := h1.push k12 hbs1 hvb1 ho3 hg3 hloc
  have hfin : ChPost base p ρ { d with cs := d.cs ++ [c] } (doit nw c) w (.returned (.tuple #[])) (w3.setCell ⟨p, 5, none⟩ v') := ⟨rfl, ρ2, s, n, v', _, h2, hfr1.trans hfr2⟩
  have HF := Hid_mk hfin
  have hp5 : w1.cell? ⟨p, 5, none⟩ = some vp := h1.c5
  have hp52 := k12.cell' hp5 id
  have hp52' : (w1.alloc (.cells #[.int .i64 (c.kind : Int), .string c.name, .string c.to, .slice ab lb cb, .int .i64 (c.size : Int)] 80)).cell? ⟨p, 5, none⟩ = some vp := hp52
  have hne5 : ¬ some p = vp.ownBlock := fun e => by have := h1.rv p e.symm; rw [h1.rp] at this; cases this
  have kg3 : Kp (fun k => some k = vp.ownBlock) (w1.alloc (.cells #[.int .i64 (c.kind : Int), .string c.name, .string c.to, .slice ab lb cb, .int .i64 (c.size : Int)] 80)).drew w3 := (Kp.refl _ _).grown hg3 fun k _ e => e.symm
  have hp53 := kg3.cell' hp52 hne5
  have hf53 : w3.frozen? ⟨p, 5, none⟩ = false := (kg3.frozen (p := ⟨p, 5, none⟩) (by have := h1.lt; simp; omega) hne5).trans ((h1.no k12).warm 5)
  obtain ⟨g9, cap9, rfl, hg9, hg10⟩ := owns_some ho3 (by omega)
  clear hfin h2 hfr2 kg3 hne5 ho3 hg3 hloc hown2 hbase k12 hvb1 hbs1 h1 hfr1 hrole hex hk1 g4 c4 b0 b1 b2 b3 b4 HC
  go_wp2
  go_region_law (refine step_append_run rfl _ _ _ _ rfl hr3 ?_)
  all_goals
    go_wp2
    go_end0
    exact HF.out

end Go.Proofs.YtmehneicdklfeaaGreat.dsk

namespace Go.Proofs.YtmehneicdklfeaaGreat.dsk
open Go.RowKit Go.Maps Go.Proofs.YtmehneicdklfeaaGreat.sum Go.Proofs.YtmehneicdklfeaaGreat.kept Go.Proofs.YtmehneicdklfeaaGreat.app Go.Proofs.YtmehneicdklfeaaGreat.writer Go.Proofs.YtmehneicdklfeaaGreat.clone Go.Proofs.YtmehneicdklfeaaGreat.fs Go.Proofs.YtmehneicdklfeaaGreat.fsMem Go.Proofs.YtmehneicdklfeaaGreat.fsDo Go.Proofs.YtmehneicdklfeaaGreat.fsUsed Go.Proofs.YtmehneicdklfeaaGreat.turned
set_option linter.unusedVariables false

theorem DkAt.clear {w : World} {base p : Nat} {ρ : Nat → Role} {d : DSt} {nw : Files} {s n : Nat} {vp : Value} {ps : List (Change × Value)} (h : DkAt w base p ρ d nw s n vp ps) :
    DkAt (w.setCell ⟨p, 5, none⟩ (.slice none 0 0)) base p ρ { d with cs := [] } nw s n (.slice none 0 0) [] := by
  have hk := kp_p w p 5 (.slice none 0 0)
  have hrp := h.rp
  have hss : (w.setCell ⟨p, 5, none⟩ (.slice none 0 0)).heap.size = w.heap.size := by simp [World.setCell]
  refine ⟨cell_ne h.c0 (by omega), cell_ne h.c1 (by omega), cell_ne h.c2 (by omega), cell_ne h.c3 (by omega), cell_ne h.c4 (by omega), World.cell?_setCell_same w _ _ h.c5, warm_set h.warm, ?_, ?_, rfl, World.ownsRow_nil _ _ _ _, (fun q hq => by cases hq), h.rp, h.rs, h.rn, (fun g hg => by simp [Value.ownBlock] at hg), h.bp, h.low, fun k hk2 => h.hi k (by omega)⟩
  · refine h.syn.kept hk (fun k _ e => ⟨fun e2 => ?_, fun m hm => ?_⟩) fun _ _ => rfl
    · have := h.rs; rw [← e2, e, hrp] at this; cases this
    · rw [e] at hm; rw [sOf_none (by rw [hrp]; simp)] at hm; cases hm
  · refine h.now.kept hk (fun k _ e => ⟨fun e2 => ?_, fun m hm => ?_⟩) fun _ _ => rfl
    · have := h.rn; rw [← e2, e, hrp] at this; cases this
    · rw [e] at hm; rw [nOf_none (by rw [hrp]; simp)] at hm; cases hm

def SeRel (base p : Nat) (ρ : Nat → Role) (d : DSt) (nw : Files) (s n : Nat) (vp : Value) (ps : List (Change × Value)) (k : Nat) (w : World) (i : Value) (wr : World) : Prop :=
  ∃ (j : Nat) (ρ1 : Nat → Role), j ≤ k ∧ i = .int .i64 ((j : Nat) : Int) ∧ DkAt wr base p ρ1 { d with syn := all d.syn (d.cs.take j) } nw s n vp ps ∧ Fr ρ w ρ1 wr

theorem pend_cells {w : World} {base g n cap : Nat} {ps : List (Change × Value)} (h : w.ownsRow base 80 5 (.slice (some ⟨g, 0, none⟩) n cap) ps.length (ps.flatMap chgList)) (j : Nat) (hj : j < ps.length) :
    w.cell? ⟨g, j * 5, none⟩ = some (.int .i64 (ps[j].1.kind : Int)) ∧ w.cell? ⟨g, j * 5 + 1, none⟩ = some (.string ps[j].1.name) ∧ w.cell? ⟨g, j * 5 + 2, none⟩ = some (.string ps[j].1.to) ∧ w.cell? ⟨g, j * 5 + 3, none⟩ = some ps[j].2 ∧ w.cell? ⟨g, j * 5 + 4, none⟩ = some (.int .i64 (ps[j].1.size : Int)) := by
  have flat : ∀ (L : List (Change × Value)) (k : Nat) (hk : k < L.length) (i : Nat) (hi : i < 5), (L.flatMap chgList)[k * 5 + i]? = (chgList L[k])[i]? := by
    intro L
    induction L with
    | nil => intro k hk; simp at hk
    | cons x L ih =>
      intro k hk i hi
      cases k with
      | zero =>
        rw [List.flatMap_cons, List.getElem?_append_left (by show 0 * 5 + i < 5; omega)]
        simp
      | succ k =>
        have := ih k (by simpa using hk) i hi
        rw [List.flatMap_cons, List.getElem?_append_right (by show 5 ≤ _; omega)]
        have e : (k + 1) * 5 + i - (chgList x).length = k * 5 + i := by show (k + 1) * 5 + i - 5 = _; omega
        rw [e, this]
        simp
  have hc : ∀ i u, i < 5 → (chgList ps[j])[i]? = some u → w.cell? ⟨g, j * 5 + i, none⟩ = some u := by
    intro i u hi hu
    have := h.cells (g := g) rfl (j * 5 + i) u (by rw [flat ps j hj i hi]; exact hu)
    rw [addr_add, Nat.zero_add] at this
    exact this
  exact ⟨hc 0 _ (by omega) rfl, hc 1 _ (by omega) rfl, hc 2 _ (by omega) rfl, hc 3 _ (by omega) rfl, hc 4 _ (by omega) rfl⟩

/-- what was pending is there to be read still -/
def Left (w : World) (base : Nat) (ρ : Nat → Role) (vp : Value) (ps : List (Change × Value)) : Prop :=
  w.ownsRow base 80 5 vp ps.length (ps.flatMap chgList) ∧ (∀ g, vp.ownBlock = some g → ρ g = .pend) ∧ ∀ q ∈ ps, Bs w q.2 q.1.bytes ∧ ∀ x o m c, q.2 = .slice (some ⟨x, o, none⟩) m c → ρ x = .byt ∧ x < w.heap.size

theorem DkAt.left {w : World} {base p : Nat} {ρ : Nat → Role} {d : DSt} {nw : Files} {s n : Nat} {vp : Value} {ps : List (Change × Value)} (h : DkAt w base p ρ d nw s n vp ps) (u : Value) : Left (w.setCell ⟨p, 5, none⟩ u) base ρ vp ps := by
  have hk := kp_p w p 5 u
  have hss : (w.setCell ⟨p, 5, none⟩ u).heap.size = w.heap.size := by simp [World.setCell]
  refine ⟨owns_kept h.pend hk (fun k e e2 => ?_), h.rv, fun q hq => ⟨bs_kept (h.byts q hq).1 hk (fun x o m c e e2 => ?_), fun x o m c e => ⟨((h.byts q hq).2 x o m c e).1, by have := ((h.byts q hq).2 x o m c e).2; omega⟩⟩⟩
  · have := h.rv k e; rw [e2, h.rp] at this; cases this
  · have := ((h.byts q hq).2 x o m c e).1; rw [e2, h.rp] at this; cases this

set_option maxRecDepth 100000 in
set_option maxHeartbeats 8000000 in
theorem settle_any (w : World) (base p M : Nat) (ρ : Nat → Role) (d : DSt) (nw : Files) (s n : Nat) (vp : Value) (ps : List (Change × Value)) (k : Nat) (h : DkAt w base p ρ d nw s n vp ps) (hok : DOk M d) (hM : M ≤ 1000000) (hk : k ≤ ps.length) :
    Calls Tryz.prog 54 #[.pointer (some ⟨p, 0, none⟩), .int .i64 (k : Int)] w fun e w' => e = .returned (.tuple #[]) ∧ ∃ ρ', DkAt w' base p ρ' { d with syn := all d.syn (d.cs.take k), cs := [] } nw s n (.slice none 0 0) [] ∧ Fr ρ w ρ' w' ∧ Left w' base ρ' vp ps := by
  have hpl : ps.length = d.cs.length := by rw [← h.cs, List.length_map]
  have hfew := hok.few
  have H := Hid_mk h
  have HOk := Hid_mk hok
  have c5 := h.c5
  rcases owns_any h.pend with ⟨rfl, hz⟩ | ⟨g, cap, rfl, hg1, hg2, hg3, hg4⟩
  · have hk0 : k = 0 := by omega
    subst hk0
    have hfin := h.clear
    have e : ({ d with syn := all d.syn (d.cs.take 0), cs := [] } : DSt) = { d with cs := [] } := by simp [all_nil]
    rw [e]
    have hw5 := h.warm 5
    have HLf := Hid_mk (h.left (.slice none 0 0))
    have HF := Hid_mk hfin
    have hfr : Fr ρ w ρ (w.setCell ⟨p, 5, none⟩ (.slice none 0 0)) := ⟨(kp_p w p 5 _).mono (fun k _ e => by rw [e, h.rp]; simp), fun _ _ h => h⟩
    clear hfin h hok e
    go_enter Tryz.func54, Tryz.ntmps54
    go_wp2
    go_loopw [13] (fun i wr => i = .int .i64 0 ∧ wr = w) (fun _ _ => 0)
    case atStart => exact ⟨rfl, rfl⟩
    case round =>
      obtain ⟨rfl, rfl⟩ := hrel
      go_wp2
      go_end0
      exact ⟨rfl, ρ, HF.out, hfr, HLf.out⟩
  · unfold maxLen at hg4
    have hkc : (k : Int) ≤ (cap : Int) := by omega
    have hk0 : (0 : Int) ≤ (k : Int) := by omega
    have hcs := h.cs
    have HPl := Hid_mk hpl
    clear h hok hpl
    go_enter Tryz.func54, Tryz.ntmps54
    go_wp2
    go_loopw [13] (fun i wr => SeRel base p ρ d nw s n (.slice (some ⟨g, 0, none⟩) ps.length cap) ps k w i wr) (fun i _ => k - (intOf i).toNat)
    case atStart => exact ⟨0, ρ, Nat.zero_le _, rfl, by rw [List.take_zero, all_nil]; exact H.out, Fr.refl _ _⟩
    case round =>
      obtain ⟨j, ρ1, hj, rfl, h1, hfr1⟩ := hrel
      have H1 := Hid_mk h1
      have HFr1 := Hid_mk hfr1
      by_cases hlt : j < k
      · have hji : (j : Int) < (k : Int) := by omega
        have hjp : j < ps.length := by omega
        obtain ⟨p0, p1, p2, p3, p4⟩ := pend_cells h1.pend j hjp
        have hby := h1.byts ps[j] (List.getElem_mem hjp)
        have hjc : j < d.cs.length := by have := HPl.out; omega
        have hcj : ps[j].1 = d.cs[j] := by
          have : (ps.map (·.1))[j]'(by simpa using hjp) = d.cs[j] := by simp only [hcs]
          simpa using this
        have hfit := fitsAll_at HOk.out.fit j hjc
        have hnames := HOk.out.names d.cs[j] (List.getElem_mem hjc)
        have hrise := rising_all HOk.out.rising (d.cs.take j)
        have hlen1 := len_all HOk.out.rising (d.cs.take j)
        have hused1 := used_all HOk.out.rising (d.cs.take j)
        have hbt := bytesOf_take d.cs j
        have hsm := HOk.out.small
        have hbj : bytesOf (d.cs.take j) + d.cs[j].bytes.length ≤ bytesOf d.cs := by
          have := bytesOf_take d.cs (j + 1)
          rw [List.take_succ_eq_append_getElem hjc, bytesOf_append] at this
          simpa [bytesOf] using this
        have hstep : all d.syn (d.cs.take (j + 1)) = doit (all d.syn (d.cs.take j)) d.cs[j] := by rw [List.take_succ_eq_append_getElem hjc, all_snoc]
        rw [← hcj] at hfit hnames hbj hstep
        generalize hq : ps[j] = q at *
        obtain ⟨c, vb⟩ := q
        simp only at p0 p1 p2 p3 p4 hby hfit hnames hbj hstep
        have hol := get_len hrise (nm c.name)
        have htl : (d.cs.take j).length ≤ d.cs.length := by rw [List.length_take]; omega
        have hMs : M * 8388608 ≤ 1000000 * 8388608 := Nat.mul_le_mul_right _ hM
        obtain ⟨ab, lb, cb, rfl⟩ : ∃ ab lb cb, vb = .slice ab lb cb := by obtain ⟨a, c, e, -⟩ := hby.1; exact ⟨_, _, _, e⟩
        have k0 : Kp No wr (wr.alloc (.cells #[.int .i64 (c.kind : Int), .string c.name, .string c.to, .slice ab lb cb, .int .i64 (c.size : Int)] 80)).drew := ((Kp.refl No wr).alloc _).drew
        have hd := do_any _ base s (sOf ρ1) (all d.syn (d.cs.take j)) c (.slice ab lb cb) (h1.no k0).syn hfit (bs_no hby.1 k0) hnames.1 hnames.2 (by unfold maxLen; omega) (fun _ => by unfold old; omega)
        have hcall : Calls Tryz.prog 67 #[.map (some s), chg c (.slice ab lb cb)] (wr.alloc (.cells #[.int .i64 (c.kind : Int), .string c.name, .string c.to, .slice ab lb cb, .int .i64 (c.size : Int)] 80)).drew
            fun e w2 => e = .returned (.tuple #[]) ∧ SeRel base p ρ d nw s n (.slice (some ⟨g, 0, none⟩) ps.length cap) ps k w (.int .i64 ((j + 1 : Nat) : Int)) w2 ∧ w2.cell? ⟨p, 3, none⟩ = some (.map (some s)) ∧
              w2.cell? ⟨wr.heap.size, 0, none⟩ = some (.int .i64 (c.kind : Int)) ∧ w2.cell? ⟨wr.heap.size, 1, none⟩ = some (.string c.name) ∧ w2.cell? ⟨wr.heap.size, 2, none⟩ = some (.string c.to) ∧ w2.cell? ⟨wr.heap.size, 3, none⟩ = some (.slice ab lb cb) ∧ w2.cell? ⟨wr.heap.size, 4, none⟩ = some (.int .i64 (c.size : Int)) := by
          refine hd.mono ?_
          intro e w2 hpost
          obtain ⟨he, ρn, hfm, hkp, hsub⟩ := id hpost
          obtain ⟨ρ2, h2, hfr2, -⟩ := H1.out.after_syn k0 hpost
          have hq : ¬ (wr.heap.size = s ∨ (sOf ρ1 wr.heap.size).isSome = true) := by
            rintro (e | e)
            · have := H1.out.syn.lt; omega
            · rw [sOf_none (by rw [H1.out.hi _ (Nat.le_refl _)]; simp)] at e; cases e
          have hp : ¬ (p = s ∨ (sOf ρ1 p).isSome = true) := by
            rintro (e | e)
            · have := H1.out.rp; rw [e, H1.out.rs] at this; cases this
            · rw [sOf_none (by rw [H1.out.rp]; simp)] at e; cases e
          refine ⟨he, ⟨j + 1, ρ2, hlt, rfl, by rw [hstep]; exact h2, HFr1.out.trans hfr2⟩, hkp.cell' (k0.cell' H1.out.c3 id) hp, hkp.cell' (by simp) hq, hkp.cell' (by simp) hq, hkp.cell' (by simp) hq, hkp.cell' (by simp) hq, hkp.cell' (by simp) hq⟩
        unfold chg at hcall
        have HC := Hid_mk hcall
        have c3 : (wr.alloc (.cells #[.int .i64 (c.kind : Int), .string c.name, .string c.to, .slice ab lb cb, .int .i64 (c.size : Int)] 80)).drew.cell? ⟨p, 3, none⟩ = some (.map (some s)) := k0.cell' h1.c3 id
        clear hcall hd hby hfit hnames hrise hlen1 hused1 hbt hsm hbj hstep hol htl hMs k0 h1 hfr1 hcj
        go_wp2
        go_region_held3 (fun W => W.cell? ⟨p, 3, none⟩ = some (.map (some s)) ∧ W.cell? ⟨wr.heap.size, 0, none⟩ = some (.int .i64 (c.kind : Int)) ∧ W.cell? ⟨wr.heap.size, 1, none⟩ = some (.string c.name) ∧ W.cell? ⟨wr.heap.size, 2, none⟩ = some (.string c.to) ∧
            W.cell? ⟨wr.heap.size, 3, none⟩ = some (.slice ab lb cb) ∧ W.cell? ⟨wr.heap.size, 4, none⟩ = some (.int .i64 (c.size : Int)))
          (first
            | (dsimp only; exact ⟨c3, by simp, by simp, by simp, by simp, by simp⟩)
            | go_keep
            | assumption)
          ((go_at_call 67; (with_reducible refine HC.out.mono ?_); rintro e w2 ⟨rfl, hrel2, g3, g0, g1, g2, g4, g5⟩; have HRel := Hid_mk hrel2; clear hrel2))
        go_wp2
        go_roundw
        case rel => exact HRel.out
        case measure => simp [intOf]; omega
      · have hji : ¬ (j : Int) < (k : Int) := by omega
        obtain rfl : j = k := by omega
        have hfin := h1.clear
        have d5 := h1.c5
        have hw5 := h1.warm 5
        have hfr2 : Fr ρ w ρ1 (wr.setCell ⟨p, 5, none⟩ (.slice none 0 0)) := hfr1.trans ⟨(kp_p wr p 5 _).mono (fun k _ e => by rw [e, h1.rp]; simp), fun _ _ h => h⟩
        have HLf := Hid_mk (h1.left (.slice none 0 0))
        have HF := Hid_mk hfin
        clear hfin h1 hfr1
        go_wp2
        go_end0
        exact ⟨rfl, ρ1, HF.out, hfr2, HLf.out⟩

end Go.Proofs.YtmehneicdklfeaaGreat.dsk
