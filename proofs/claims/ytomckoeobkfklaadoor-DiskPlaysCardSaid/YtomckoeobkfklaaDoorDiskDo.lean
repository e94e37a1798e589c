/- What is done to a Disk: a change, what is settled, what is torn. -/
import Derived.Test.YtomckoeobkfklaaDoorDisk
import Derived.Deep.AppendLies
import Derived.Deep.RegionLaw
namespace Go.Proofs.YtomckoeobkfklaaDoor.dsk
open Go.RowKit Go.Maps Go.Proofs.YtomckoeobkfklaaDoor.sum Go.Proofs.YtomckoeobkfklaaDoor.kept Go.Proofs.YtomckoeobkfklaaDoor.app Go.Proofs.YtomckoeobkfklaaDoor.writer Go.Proofs.YtomckoeobkfklaaDoor.clone Go.Proofs.YtomckoeobkfklaaDoor.fs Go.Proofs.YtomckoeobkfklaaDoor.fsMem Go.Proofs.YtomckoeobkfklaaDoor.fsDo Go.Proofs.YtomckoeobkfklaaDoor.fsUsed Go.Proofs.YtomckoeobkfklaaDoor.turned
set_option linter.unusedVariables false

/-- behind something done to what is there now -/
theorem DkAt.after_now {w W0 w1 : World} {base p : Nat} {ρ : Nat → Role} {d : DSt} {nw fs' : Files} {s n : Nat} {vp : Value} {ps : List (Change × Value)} {e : Ending} (h' : DkAt w base p ρ d nw s n vp ps) (hk0 : Kp No w W0) (hd : DoPost base n (nOf ρ) W0 fs' e w1) :
    ∃ ρ', DkAt w1 base p ρ' d fs' s n vp ps ∧ Fr ρ w ρ' w1 ∧ ∀ k, k < w.heap.size → (∀ m, ρ k ≠ .nrow m) → ρ' k = ρ k := by
  have h := h'.no hk0
  obtain ⟨-, ρn, hfm, hkp, hsub⟩ := hd
  have hsz := hkp.size
  have hs0 := hk0.size
  obtain ⟨ρ1, hρ1⟩ : ∃ ρ1 : Nat → Role, ρ1 = fun k => if k < W0.heap.size then (match ρ k with | .nrow _ => (match ρn k with | some m => .nrow m | none => .other) | r => r) else if k < w1.heap.size then (match ρn k with | some m => .nrow m | none => .other) else .other := ⟨_, rfl⟩
  have keep : ∀ k, k < W0.heap.size → (∀ m, ρ k ≠ .nrow m) → ρ1 k = ρ k := fun k hk hn => by
    rw [hρ1]; simp only [if_pos hk]
    all_goals (cases hr : ρ k <;> first | exact absurd hr (hn _) | rfl)
  have sub : ∀ k, k < W0.heap.size → (∀ m, ρ k ≠ .nrow m) → ρn k = none := fun k hk hn => by
    cases hh : ρn k with
    | none => rfl
    | some m =>
      have := hsub k hk (by rw [hh]; rfl)
      rw [nOf_none hn] at this
      cases this
  have xof : ∀ k, k < w1.heap.size → nOf ρ1 k = ρn k := by
    intro k hk
    by_cases hk0 : k < W0.heap.size
    · by_cases hn : ∀ m, ρ k ≠ .nrow m
      · rw [sub k hk0 hn]
        exact nOf_none (by rw [keep k hk0 hn]; exact hn)
      · have hn2 := Classical.not_forall.1 hn
        obtain ⟨m, hm⟩ := hn2
        have hm := Classical.not_not.1 hm
        unfold nOf
        rw [hρ1]; simp only; rw [if_pos hk0, hm]
        cases ρn k <;> rfl
    · unfold nOf
      rw [hρ1]; simp only; rw [if_neg hk0, if_pos hk]
      cases ρn k <;> rfl
  have yof : ∀ k, k < W0.heap.size → sOf ρ1 k = sOf ρ k := by
    intro k hk
    by_cases hn : ∀ m, ρ k ≠ .nrow m
    · unfold sOf; rw [keep k hk hn]
    · obtain ⟨m, hm⟩ := Classical.not_forall.1 hn
      have hm := Classical.not_not.1 hm
      have e1 : sOf ρ k = none := sOf_none (by rw [hm]; simp)
      rw [e1]
      refine sOf_none fun x => ?_
      rw [hρ1]; simp only; rw [if_pos hk, hm]
      cases ρn k <;> simp
  have notS : ∀ k, (∀ m, ρ k ≠ .nrow m) → k ≠ n → ¬ (k = n ∨ (nOf ρ k).isSome = true) := by
    rintro k hn hne (e | e)
    · exact hne e
    · rw [nOf_none hn] at e; cases e
  have hpn : p ≠ n := fun e => by have := h.rp; rw [e, h.rn] at this; cases this
  have hp : ¬ (p = n ∨ (nOf ρ p).isSome = true) := notS p (by rw [h.rp]; simp) hpn
  refine ⟨ρ1, ⟨hkp.cell' h.c0 hp, hkp.cell' h.c1 hp, hkp.cell' h.c2 hp, hkp.cell' h.c3 hp, hkp.cell' h.c4 hp, hkp.cell' h.c5 hp, fun o => (hkp.frozen (p := ⟨p, o, none⟩) h.lt hp).trans (h.warm o), (h.syn.kept hkp (fun k hk e => ⟨fun e2 => (by rw [e2] at e; exact notS s (by rw [h.rs]; simp) (fun e3 => by have := h.rs; rw [e3, h.rn] at this; cases this) e), fun m hm => (by
      rcases e with e | e
      · rw [e, sOf_none (by rw [h.rn]; simp)] at hm; cases hm
      · by_cases hn : ∀ m, ρ k ≠ .nrow m
        · rw [nOf_none hn] at e; cases e
        · obtain ⟨m2, hm2⟩ := Classical.not_forall.1 hn
          rw [sOf_none (by rw [Classical.not_not.1 hm2]; simp)] at hm; cases hm)⟩) yof), (hfm.kept (Kp.refl No w1) (fun _ _ x => x.elim) xof), h.cs, owns_kept h.pend hkp fun k hk => ?_,
    fun q hq => ⟨bs_kept (h.byts q hq).1 hkp fun x o m c e => ?_, fun x o m c e => ?_⟩, ?_, ?_, ?_, fun g hg => ?_, h.bp, fun k hk => ?_, fun k hk => ?_⟩, ⟨hk0.to.trans hkp ?_, fun k hk e => ?_⟩, fun k hk hn => keep k (by omega) hn⟩
  · have hr := h.rv k hk
    exact notS k (by rw [hr]; simp) (fun e => by rw [e, h.rn] at hr; cases hr)
  · have hr := ((h.byts q hq).2 x o m c e).1
    exact notS x (by rw [hr]; simp) (fun e => by rw [e, h.rn] at hr; cases hr)
  · have hr := (h.byts q hq).2 x o m c e
    exact ⟨by rw [keep x hr.2 (by rw [hr.1]; simp)]; exact hr.1, by omega⟩
  · rw [keep p h.lt (by rw [h.rp]; simp)]; exact h.rp
  · rw [keep s h.syn.lt (by rw [h.rs]; simp)]; exact h.rs
  · rw [keep n h.now.lt (by rw [h.rn]; simp)]; exact h.rn
  · have hr := h.rv g hg
    rw [keep g (h.pend.lt g hg).2 (by rw [hr]; simp)]; exact hr
  · by_cases hk0 : k < W0.heap.size
    · by_cases hn : ∀ m, ρ k ≠ .nrow m
      · rw [keep k hk0 hn] at hk; exact h.low k hk
      · obtain ⟨m, hm⟩ := Classical.not_forall.1 hn
        exact h.low k (by rw [Classical.not_not.1 hm]; simp)
    · have := h.bp; have := h.lt; omega
  · rw [hρ1]; simp only; rw [if_neg (by omega), if_neg (by omega)]
  · rintro k hk (e | e) e2
    · rw [e, h.rn] at e2; cases e2
    · rw [nOf_none (by rw [e2]; simp)] at e; cases e
  · rw [keep k (by omega) (by rw [e]; simp)]; exact e

/-- behind something done to what was synced -/
theorem DkAt.after_syn {w W0 w1 : World} {base p : Nat} {ρ : Nat → Role} {d : DSt} {nw fs' : Files} {s n : Nat} {vp : Value} {ps : List (Change × Value)} {e : Ending} (h' : DkAt w base p ρ d nw s n vp ps) (hk0 : Kp No w W0) (hd : DoPost base s (sOf ρ) W0 fs' e w1) :
    ∃ ρ', DkAt w1 base p ρ' { d with syn := fs' } nw s n vp ps ∧ Fr ρ w ρ' w1 ∧ ∀ k, k < w.heap.size → (∀ m, ρ k ≠ .srow m) → ρ' k = ρ k := by
  have h := h'.no hk0
  obtain ⟨-, ρn, hfm, hkp, hsub⟩ := hd
  have hsz := hkp.size
  have hs0 := hk0.size
  obtain ⟨ρ1, hρ1⟩ : ∃ ρ1 : Nat → Role, ρ1 = fun k => if k < W0.heap.size then (match ρ k with | .srow _ => (match ρn k with | some m => .srow m | none => .other) | r => r) else if k < w1.heap.size then (match ρn k with | some m => .srow m | none => .other) else .other := ⟨_, rfl⟩
  have keep : ∀ k, k < W0.heap.size → (∀ m, ρ k ≠ .srow m) → ρ1 k = ρ k := fun k hk hn => by
    rw [hρ1]; simp only [if_pos hk]
    all_goals (cases hr : ρ k <;> first | exact absurd hr (hn _) | rfl)
  have sub : ∀ k, k < W0.heap.size → (∀ m, ρ k ≠ .srow m) → ρn k = none := fun k hk hn => by
    cases hh : ρn k with
    | none => rfl
    | some m =>
      have := hsub k hk (by rw [hh]; rfl)
      rw [sOf_none hn] at this
      cases this
  have xof : ∀ k, k < w1.heap.size → sOf ρ1 k = ρn k := by
    intro k hk
    by_cases hk0 : k < W0.heap.size
    · by_cases hn : ∀ m, ρ k ≠ .srow m
      · rw [sub k hk0 hn]
        exact sOf_none (by rw [keep k hk0 hn]; exact hn)
      · have hn2 := Classical.not_forall.1 hn
        obtain ⟨m, hm⟩ := hn2
        have hm := Classical.not_not.1 hm
        unfold sOf
        rw [hρ1]; simp only; rw [if_pos hk0, hm]
        cases ρn k <;> rfl
    · unfold sOf
      rw [hρ1]; simp only; rw [if_neg hk0, if_pos hk]
      cases ρn k <;> rfl
  have yof : ∀ k, k < W0.heap.size → nOf ρ1 k = nOf ρ k := by
    intro k hk
    by_cases hn : ∀ m, ρ k ≠ .srow m
    · unfold nOf; rw [keep k hk hn]
    · obtain ⟨m, hm⟩ := Classical.not_forall.1 hn
      have hm := Classical.not_not.1 hm
      have e1 : nOf ρ k = none := nOf_none (by rw [hm]; simp)
      rw [e1]
      refine nOf_none fun x => ?_
      rw [hρ1]; simp only; rw [if_pos hk, hm]
      cases ρn k <;> simp
  have notS : ∀ k, (∀ m, ρ k ≠ .srow m) → k ≠ s → ¬ (k = s ∨ (sOf ρ k).isSome = true) := by
    rintro k hn hne (e | e)
    · exact hne e
    · rw [sOf_none hn] at e; cases e
  have hpn : p ≠ s := fun e => by have := h.rp; rw [e, h.rs] at this; cases this
  have hp : ¬ (p = s ∨ (sOf ρ p).isSome = true) := notS p (by rw [h.rp]; simp) hpn
  refine ⟨ρ1, ⟨hkp.cell' h.c0 hp, hkp.cell' h.c1 hp, hkp.cell' h.c2 hp, hkp.cell' h.c3 hp, hkp.cell' h.c4 hp, hkp.cell' h.c5 hp, fun o => (hkp.frozen (p := ⟨p, o, none⟩) h.lt hp).trans (h.warm o), (hfm.kept (Kp.refl No w1) (fun _ _ x => x.elim) xof), (h.now.kept hkp (fun k hk e => ⟨fun e2 => (by rw [e2] at e; exact notS n (by rw [h.rn]; simp) (fun e3 => by have := h.rn; rw [e3, h.rs] at this; cases this) e), fun m hm => (by
      rcases e with e | e
      · rw [e, nOf_none (by rw [h.rs]; simp)] at hm; cases hm
      · by_cases hn : ∀ m, ρ k ≠ .srow m
        · rw [sOf_none hn] at e; cases e
        · obtain ⟨m2, hm2⟩ := Classical.not_forall.1 hn
          rw [nOf_none (by rw [Classical.not_not.1 hm2]; simp)] at hm; cases hm)⟩) yof), h.cs, owns_kept h.pend hkp fun k hk => ?_,
    fun q hq => ⟨bs_kept (h.byts q hq).1 hkp fun x o m c e => ?_, fun x o m c e => ?_⟩, ?_, ?_, ?_, fun g hg => ?_, h.bp, fun k hk => ?_, fun k hk => ?_⟩, ⟨hk0.to.trans hkp ?_, fun k hk e => ?_⟩, fun k hk hn => keep k (by omega) hn⟩
  · have hr := h.rv k hk
    exact notS k (by rw [hr]; simp) (fun e => by rw [e, h.rs] at hr; cases hr)
  · have hr := ((h.byts q hq).2 x o m c e).1
    exact notS x (by rw [hr]; simp) (fun e => by rw [e, h.rs] at hr; cases hr)
  · have hr := (h.byts q hq).2 x o m c e
    exact ⟨by rw [keep x hr.2 (by rw [hr.1]; simp)]; exact hr.1, by omega⟩
  · rw [keep p h.lt (by rw [h.rp]; simp)]; exact h.rp
  · rw [keep s h.syn.lt (by rw [h.rs]; simp)]; exact h.rs
  · rw [keep n h.now.lt (by rw [h.rn]; simp)]; exact h.rn
  · have hr := h.rv g hg
    rw [keep g (h.pend.lt g hg).2 (by rw [hr]; simp)]; exact hr
  · by_cases hk0 : k < W0.heap.size
    · by_cases hn : ∀ m, ρ k ≠ .srow m
      · rw [keep k hk0 hn] at hk; exact h.low k hk
      · obtain ⟨m, hm⟩ := Classical.not_forall.1 hn
        exact h.low k (by rw [Classical.not_not.1 hm]; simp)
    · have := h.bp; have := h.lt; omega
  · rw [hρ1]; simp only; rw [if_neg (by omega), if_neg (by omega)]
  · rintro k hk (e | e) e2
    · rw [e, h.rs] at e2; cases e2
    · rw [sOf_none (by rw [e2]; simp)] at e; cases e
  · rw [keep k (by omega) (by rw [e]; simp)]; exact e

/-- one more that is pending -/
theorem DkAt.push {w W2 w3 : World} {base p : Nat} {ρ : Nat → Role} {d : DSt} {nw : Files} {s n : Nat} {vp v' : Value} {ps : List (Change × Value)} {c : Change} {vb : Value} (h' : DkAt w base p ρ d nw s n vp ps) (hk0 : Kp No w W2)
    (hb : Bs w vb c.bytes) (hvb : ∀ x o m cc, vb = .slice (some ⟨x, o, none⟩) m cc → ρ x = .byt ∧ x < w.heap.size)
    (ho : w3.ownsRow base 63 5 v' (ps.length + 1) (ps.flatMap chgList ++ chgList (c, vb))) (hg : W2.grownBy w3 vp.ownBlock) (hloc : v'.ownBlock = vp.ownBlock ∨ v'.ownBlock = some W2.heap.size) :
    ∃ ρ', DkAt (w3.setCell ⟨p, 5, none⟩ v') base p ρ' { d with cs := d.cs ++ [c] } nw s n v' (ps ++ [(c, vb)]) ∧ Fr ρ w ρ' (w3.setCell ⟨p, 5, none⟩ v') := by
  have h := h'.no hk0
  have kg : Kp (fun k => some k = vp.ownBlock) W2 w3 := (Kp.refl _ W2).grown hg fun k _ e => e.symm
  have hs0 := hk0.size
  have hs3 := kg.size
  have hss : (w3.setCell ⟨p, 5, none⟩ v').heap.size = w3.heap.size := by simp [World.setCell]
  obtain ⟨ρ1, hρ1⟩ : ∃ ρ1 : Nat → Role, ρ1 = fun k => if some k = v'.ownBlock then .pend else ρ k := ⟨_, rfl⟩
  have hpp : ∀ k, k < W2.heap.size → some k = v'.ownBlock → ρ k = .pend := fun k hk e => by
    rcases hloc with e2 | e2
    · exact h.rv k (by rw [← e2]; exact e.symm)
    · rw [e2] at e; have := Option.some.inj e; omega
  have keep : ∀ k, k < W2.heap.size → ρ1 k = ρ k := fun k hk => by
    rw [hρ1]; simp only; split
    · rename_i e; exact (hpp k hk e).symm
    · rfl
  have kp : Kp (fun k => some k = vp.ownBlock ∨ k = p) W2 (w3.setCell ⟨p, 5, none⟩ v') := (kg.mono fun _ _ e => Or.inl e).trans (kp_p w3 p 5 v') fun i hi e => Or.inr e
  have notp : ¬ some p = vp.ownBlock := fun e => by have := h.rv p e.symm; rw [h.rp] at this; cases this
  have gp : Kp (fun k => some k = vp.ownBlock) W2 w3 := kg
  have d0 := gp.cell' h.c0 notp
  have d1 := gp.cell' h.c1 notp
  have d2 := gp.cell' h.c2 notp
  have d3 := gp.cell' h.c3 notp
  have d4 := gp.cell' h.c4 notp
  have d5 := gp.cell' h.c5 notp
  have df : ∀ o, w3.frozen? ⟨p, o, none⟩ = false := fun o => (gp.frozen (p := ⟨p, o, none⟩) h.lt notp).trans (h.warm o)
  have notS : ∀ k, ρ k ≠ .pend → ρ k ≠ .disk → ¬ (some k = vp.ownBlock ∨ k = p) := by
    rintro k h1 h2 (e | e)
    · exact h1 (h.rv k e.symm)
    · rw [e] at h2; exact h2 h.rp
  have hpo : ∀ k, v'.ownBlock = some k → ¬ k = p := fun k e e2 => by
    have hk : k < W2.heap.size := by rw [e2]; exact h.lt
    have := hpp k hk e.symm
    rw [e2, h.rp] at this
    cases this
  refine ⟨ρ1, ⟨cell_ne d0 (by omega), cell_ne d1 (by omega), cell_ne d2 (by omega), cell_ne d3 (by omega), cell_ne d4 (by omega), World.cell?_setCell_same w3 _ _ d5, warm_set df, ?_, ?_, ?_, ?_, fun q hq => ?_, ?_, ?_, ?_, fun g hg => ?_, h.bp, fun k hk => ?_, fun k hk => ?_⟩, ⟨hk0.to.trans kp ?_, fun k hk e => ?_⟩⟩
  · refine h.syn.kept kp (fun k hk e => ⟨fun e2 => ?_, fun m hm => ?_⟩) fun k hk => by unfold sOf; rw [keep k hk]
    · rw [e2] at e; exact notS s (by rw [h.rs]; simp) (by rw [h.rs]; simp) e
    · exfalso
      have : ∀ x, ρ k ≠ .srow x := by
        intro x e9
        exact notS k (by rw [e9]; simp) (by rw [e9]; simp) e
      rw [sOf_none this] at hm; cases hm
  · refine h.now.kept kp (fun k hk e => ⟨fun e2 => ?_, fun m hm => ?_⟩) fun k hk => by unfold nOf; rw [keep k hk]
    · rw [e2] at e; exact notS n (by rw [h.rn]; simp) (by rw [h.rn]; simp) e
    · exfalso
      have : ∀ x, ρ k ≠ .nrow x := by
        intro x e9
        exact notS k (by rw [e9]; simp) (by rw [e9]; simp) e
      rw [nOf_none this] at hm; cases hm
  · rw [List.map_append, h.cs]; rfl
  · rw [List.flatMap_append, List.length_append]
    have e : ([(c, vb)] : List (Change × Value)).flatMap chgList = chgList (c, vb) := by simp
    rw [e]
    exact owns_kept ho (kp_p w3 p 5 v') hpo
  · rcases List.mem_append.1 hq with hq | hq
    · have hby := h.byts q hq
      refine ⟨bs_kept hby.1 kp fun x o m cc e => notS x (by rw [(hby.2 x o m cc e).1]; simp) (by rw [(hby.2 x o m cc e).1]; simp), fun x o m cc e => ⟨by rw [keep x (hby.2 x o m cc e).2]; exact (hby.2 x o m cc e).1, by have := (hby.2 x o m cc e).2; omega⟩⟩
    · simp only [List.mem_singleton] at hq
      subst hq
      refine ⟨bs_kept (bs_no hb hk0) kp fun x o m cc e => notS x (by rw [(hvb x o m cc e).1]; simp) (by rw [(hvb x o m cc e).1]; simp), fun x o m cc e => ⟨by rw [keep x (by have := (hvb x o m cc e).2; omega)]; exact (hvb x o m cc e).1, by have := (hvb x o m cc e).2; omega⟩⟩
  · rw [keep p h.lt]; exact h.rp
  · rw [keep s h.syn.lt]; exact h.rs
  · rw [keep n h.now.lt]; exact h.rn
  · rw [hρ1]; simp [hg]
  · rw [hρ1] at hk
    simp only at hk
    split at hk
    · rename_i e; exact (ho.lt k e.symm).1
    · exact h.low k hk
  · rw [hρ1]
    simp only
    rw [if_neg (fun e => by have := (ho.lt k e.symm).2; omega)]
    exact h.hi k (by omega)
  · rintro k hk (e | e) e2
    · have := h.rv k e.symm; rw [e2] at this; cases this
    · rw [e, h.rp] at e2; cases e2
  · rw [keep k (by omega)]; exact e

theorem infoC : (Tryd.prog.info? 63).map (fun i => (i.zero, i.size, i.bytes)) = some (some (.agg #[.int .i64 0, .string ByteArray.empty, .string ByteArray.empty, .slice none 0 0, .int .i64 0]), 5, 72) := by kernel_rfl

end Go.Proofs.YtomckoeobkfklaaDoor.dsk
