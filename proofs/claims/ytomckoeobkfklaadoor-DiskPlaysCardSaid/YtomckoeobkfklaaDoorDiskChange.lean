/- (*Disk).change: something done now, and pending. -/
import Derived.Test.YtomckoeobkfklaaDoorDiskDo
namespace Go.Proofs.YtomckoeobkfklaaDoor.dsk
open Go.RowKit Go.Maps Go.Proofs.YtomckoeobkfklaaDoor.sum Go.Proofs.YtomckoeobkfklaaDoor.kept Go.Proofs.YtomckoeobkfklaaDoor.app Go.Proofs.YtomckoeobkfklaaDoor.writer Go.Proofs.YtomckoeobkfklaaDoor.clone Go.Proofs.YtomckoeobkfklaaDoor.fs Go.Proofs.YtomckoeobkfklaaDoor.fsMem Go.Proofs.YtomckoeobkfklaaDoor.fsDo Go.Proofs.YtomckoeobkfklaaDoor.fsUsed Go.Proofs.YtomckoeobkfklaaDoor.turned
set_option linter.unusedVariables false

def ChPost (base p : Nat) (ρ : Nat → Role) (d : DSt) (nw : Files) (w : World) (e : Ending) (w' : World) : Prop :=
  e = .returned (.tuple #[]) ∧ ∃ ρ' s n vp ps, DkAt w' base p ρ' d nw s n vp ps ∧ Fr ρ w ρ' w'

theorem chg_oneCell {c : Change} {vb : Value} (h : vb.oneCell' = true) : ∀ u ∈ chgList (c, vb), u.oneCell' = true := by
  intro u hu
  simp only [chgList, List.mem_cons, List.not_mem_nil, or_false] at hu
  rcases hu with rfl | rfl | rfl | rfl | rfl <;> first | rfl | exact h

set_option maxRecDepth 100000 in
set_option maxHeartbeats 4000000 in
theorem change_any (w : World) (base p : Nat) (ρ : Nat → Role) (d : DSt) (nw : Files) (s n : Nat) (vp : Value) (ps : List (Change × Value)) (c : Change) (vb : Value) (h : DkAt w base p ρ d nw s n vp ps)
    (hf : c.fits nw) (hb : Bs w vb c.bytes) (hvb : ∀ x o m cc, vb = .slice (some ⟨x, o, none⟩) m cc → ρ x = .byt ∧ x < w.heap.size) (hs : c.name.size ≤ maxLen) (hst : c.to.size ≤ maxLen) (hl : nw.length < maxLen)
    (hlen : c.kind = 0 → (old nw (nm c.name)).length + c.bytes.length ≤ 140737488355328) (hps : ps.length ≤ 1000000000000) :
    Calls Tryd.prog 36 #[.pointer (some ⟨p, 0, none⟩), chg c vb] w (ChPost base p ρ { d with cs := d.cs ++ [c] } (doit nw c) w) := by
  obtain ⟨i0, hi, hz0, hz1, hz2⟩ := info_parts infoC
  obtain ⟨ab, lb, cb, rfl⟩ : ∃ ab lb cb, vb = .slice ab lb cb := by obtain ⟨a, c, e, -⟩ := hb; exact ⟨_, _, _, e⟩
  generalize hcv : (Value.slice ab lb cb) = vb at *
  have hone : vb.oneCell' = true := by rw [← hcv]; rfl
  obtain ⟨W0, hW0⟩ : ∃ W0, W0 = (w.alloc (.cells #[.int .i64 (c.kind : Int), .string c.name, .string c.to, vb, .int .i64 (c.size : Int)] 63)).drew := ⟨_, rfl⟩
  have k0 : Kp No w W0 := by rw [hW0]; exact ((Kp.refl No w).alloc _).drew
  have h0 := h.no k0
  have hd := do_any W0 base n (nOf ρ) nw c vb h0.now hf (bs_no hb k0) hs hst hl hlen
  have HD := Hid_mk hd
  have c4 : W0.cell? ⟨p, 4, none⟩ = some (.map (some n)) := h0.c4
  have b0 : W0.cell? ⟨w.heap.size, 0, none⟩ = some (.int .i64 (c.kind : Int)) := by rw [hW0]; simp
  have b1 : W0.cell? ⟨w.heap.size, 1, none⟩ = some (.string c.name) := by rw [hW0]; simp
  have b2 : W0.cell? ⟨w.heap.size, 2, none⟩ = some (.string c.to) := by rw [hW0]; simp
  have b3 : W0.cell? ⟨w.heap.size, 3, none⟩ = some vb := by rw [hW0]; simp
  have b4 : W0.cell? ⟨w.heap.size, 4, none⟩ = some (.int .i64 (c.size : Int)) := by rw [hW0]; simp
  have H := Hid_mk h
  have HB := Hid_mk hb
  have HVB := Hid_mk hvb
  have hcall : Calls Tryd.prog 50 #[.map (some n), chg c vb] W0 fun e w1 => e = .returned (.tuple #[]) ∧ Kp (fun k => k = n ∨ (nOf ρ k).isSome = true) W0 w1 ∧ w1.cell? ⟨p, 4, none⟩ = some (.map (some n)) ∧
      w1.cell? ⟨w.heap.size, 0, none⟩ = some (.int .i64 (c.kind : Int)) ∧ w1.cell? ⟨w.heap.size, 1, none⟩ = some (.string c.name) ∧ w1.cell? ⟨w.heap.size, 2, none⟩ = some (.string c.to) ∧ w1.cell? ⟨w.heap.size, 3, none⟩ = some vb ∧ w1.cell? ⟨w.heap.size, 4, none⟩ = some (.int .i64 (c.size : Int)) ∧
      Hid (∃ ρ1, DkAt w1 base p ρ1 d (doit nw c) s n vp ps ∧ Fr ρ w ρ1 w1 ∧ ∀ k, k < w.heap.size → (∀ m, ρ k ≠ .nrow m) → ρ1 k = ρ k) := by
    refine hd.mono ?_
    intro e w1 hpost
    obtain ⟨he, ρn, hfm, hkp, hsub⟩ := id hpost
    have hq : ¬ (w.heap.size = n ∨ (nOf ρ w.heap.size).isSome = true) := by
      rintro (e | e)
      · have := h.now.lt; omega
      · rw [nOf_none (by rw [h.hi _ (Nat.le_refl _)]; simp)] at e; cases e
    have hp : ¬ (p = n ∨ (nOf ρ p).isSome = true) := by
      rintro (e | e)
      · have := h.rp; rw [e, h.rn] at this; cases this
      · rw [nOf_none (by rw [h.rp]; simp)] at e; cases e
    exact ⟨he, hkp, hkp.cell' c4 hp, hkp.cell' b0 hq, hkp.cell' b1 hq, hkp.cell' b2 hq, hkp.cell' b3 hq, hkp.cell' b4 hq, Hid_mk (h.after_now k0 hpost)⟩
  unfold chg at hcall ⊢
  rw [← hcv] at *
  have HC := Hid_mk hcall
  subst hW0
  clear hcall hd h0 k0 h hb hvb hf hs hst hl hlen HD
  go_enter Tryd.func36, Tryd.ntmps36
  go_wp2
  go_region_held3 (fun W => W.cell? ⟨p, 4, none⟩ = some (.map (some n)) ∧ W.cell? ⟨w.heap.size, 0, none⟩ = some (.int .i64 (c.kind : Int)) ∧ W.cell? ⟨w.heap.size, 1, none⟩ = some (.string c.name) ∧ W.cell? ⟨w.heap.size, 2, none⟩ = some (.string c.to) ∧
      W.cell? ⟨w.heap.size, 3, none⟩ = some (.slice ab lb cb) ∧ W.cell? ⟨w.heap.size, 4, none⟩ = some (.int .i64 (c.size : Int)))
    (first
      | go_keep
      | (dsimp only; exact ⟨c4, b0, b1, b2, b3, b4⟩)
      | assumption)
    ((go_at_call 50; (with_reducible refine HC.out.mono ?_); rintro e w1 ⟨rfl, hk1, g4, g0, g1, g2, g3, g5, hex⟩))
  obtain ⟨ρ1, h1, hfr1, hrole⟩ := hex.out
  have hbs1 : Bs w1 (.slice ab lb cb) c.bytes := bs_kept (bs_no HB.out ((Kp.refl No w).alloc _).drew) hk1 fun x o m cc e => by
    obtain ⟨r1, r2⟩ := HVB.out x o m cc e
    rintro (e2 | e2)
    · rw [e2, H.out.rn] at r1; cases r1
    · rw [nOf_none (by rw [r1]; simp)] at e2; cases e2
  have hvb1 : ∀ x o m cc, (Value.slice ab lb cb) = .slice (some ⟨x, o, none⟩) m cc → ρ1 x = .byt ∧ x < w1.heap.size := fun x o m cc e => by
    obtain ⟨r1, r2⟩ := HVB.out x o m cc e
    have hs1 := hfr1.1.size
    exact ⟨by rw [hrole x r2 (by rw [r1]; simp)]; exact r1, by omega⟩
  have k12 : Kp No w1 (w1.alloc (.cells #[.int .i64 (c.kind : Int), .string c.name, .string c.to, .slice ab lb cb, .int .i64 (c.size : Int)] 63)).drew := ((Kp.refl No w1).alloc _).drew
  have hown2 := owns_kept h1.pend k12 fun _ _ => id
  have hbase : base ≤ (w1.alloc (.cells #[.int .i64 (c.kind : Int), .string c.name, .string c.to, .slice ab lb cb, .int .i64 (c.size : Int)] 63)).drew.heap.size := by have := h1.bp; have := h1.lt; simp; omega
  obtain ⟨v', w3, hr3, ho3, hg3, -, hloc⟩ := run_append_own_at (P := Tryd.prog) _ base 42 42 63 i0 (.agg #[.int .i64 0, .string ByteArray.empty, .string ByteArray.empty, .slice none 0 0, .int .i64 0]) 5 72 Tryd.underlying42 hi hz0 hz1 hz2 rfl (by decide) vp ps.length _ hown2
    ⟨w1.heap.size, 0, none⟩ 1 1 (chgList (c, .slice ab lb cb)) rfl (World.news_of_block (cs := (chgList (c, .slice ab lb cb)).toArray) (t := 63) (fr := (0, 0)) (heap_alloc_new w1 _)) (chg_oneCell hone) (by unfold maxLen; omega) (by omega) hbase
  obtain ⟨ρ2, h2, hfr2⟩ := h1.push k12 hbs1 hvb1 ho3 hg3 hloc
  have hfin : ChPost base p ρ { d with cs := d.cs ++ [c] } (doit nw c) w (.returned (.tuple #[])) (w3.setCell ⟨p, 5, none⟩ v') := ⟨rfl, ρ2, s, n, v', _, h2, hfr1.trans hfr2⟩
  have HF := Hid_mk hfin
  have hp5 : w1.cell? ⟨p, 5, none⟩ = some vp := h1.c5
  have hp52 := k12.cell' hp5 id
  have hp52' : (w1.alloc (.cells #[.int .i64 (c.kind : Int), .string c.name, .string c.to, .slice ab lb cb, .int .i64 (c.size : Int)] 63)).cell? ⟨p, 5, none⟩ = some vp := hp52
  have hne5 : ¬ some p = vp.ownBlock := fun e => by have := h1.rv p e.symm; rw [h1.rp] at this; cases this
  have kg3 : Kp (fun k => some k = vp.ownBlock) (w1.alloc (.cells #[.int .i64 (c.kind : Int), .string c.name, .string c.to, .slice ab lb cb, .int .i64 (c.size : Int)] 63)).drew w3 := (Kp.refl _ _).grown hg3 fun k _ e => e.symm
  have hp53 := kg3.cell' hp52 hne5
  have hf53 : w3.frozen? ⟨p, 5, none⟩ = false := (kg3.frozen (p := ⟨p, 5, none⟩) (by have := h1.lt; simp; omega) hne5).trans ((h1.no k12).warm 5)
  obtain ⟨g9, cap9, rfl, hg9, hg10⟩ := owns_some ho3 (by omega)
  clear hfin h2 hfr2 kg3 hne5 ho3 hg3 hloc hown2 hbase k12 hvb1 hbs1 h1 hfr1 hrole hex hk1 g4 c4 b0 b1 b2 b3 b4 HC
  go_wp2
  go_region_law (refine step_append_run rfl _ _ _ _ rfl hr3 ?_)
  all_goals
    go_wp2
    go_end0
    exact HF.out

end Go.Proofs.YtomckoeobkfklaaDoor.dsk
