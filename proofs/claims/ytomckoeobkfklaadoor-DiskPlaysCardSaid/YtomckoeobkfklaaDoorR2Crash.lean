/- The reference's Disk: Crash. -/
import Derived.Test.YtomckoeobkfklaaDoorR2Append
namespace Go.Proofs.YtomckoeobkfklaaDoor.r2
open Go.RowKit Go.Maps Go.Proofs.YtomckoeobkfklaaDoor.sum Go.Proofs.YtomckoeobkfklaaDoor.kept Go.Proofs.YtomckoeobkfklaaDoor.app Go.Proofs.YtomckoeobkfklaaDoor.writer Go.Proofs.YtomckoeobkfklaaDoor.clone Go.Proofs.YtomckoeobkfklaaDoor.fs Go.Proofs.YtomckoeobkfklaaDoor.fsDo Go.Proofs.YtomckoeobkfklaaDoor.unseal Go.Proofs.YtomckoeobkfklaaDoor.dsk
set_option linter.unusedVariables false

theorem op_cells {w : World} {base g n cap : Nat} {ps : List (Change × Value)} (h : w.ownsRow base 71 5 (.slice (some ⟨g, 0, none⟩) n cap) ps.length (ps.flatMap chgList)) (j : Nat) (hj : j < ps.length) :
    w.cell? ⟨g, j * 5, none⟩ = some (.int .i64 (ps[j].1.kind : Int)) ∧ w.cell? ⟨g, j * 5 + 1, none⟩ = some (.string ps[j].1.name) ∧ w.cell? ⟨g, j * 5 + 2, none⟩ = some (.string ps[j].1.to) ∧ w.cell? ⟨g, j * 5 + 3, none⟩ = some ps[j].2 ∧ w.cell? ⟨g, j * 5 + 4, none⟩ = some (.int .i64 (ps[j].1.size : Int)) := by
  have flat : ∀ (L : List (Change × Value)) (k : Nat) (hk : k < L.length) (i : Nat) (hi : i < 5), (L.flatMap chgList)[k * 5 + i]? = (chgList L[k])[i]? := by
    intro L
    induction L with
    | nil => intro k hk; simp at hk
    | cons x L ih =>
      intro k hk i hi
      cases k with
      | zero =>
        rw [List.flatMap_cons, List.getElem?_append_left (by show 0 * 5 + i < 5; omega)]
        simp
      | succ k =>
        have := ih k (by simpa using hk) i hi
        rw [List.flatMap_cons, List.getElem?_append_right (by show 5 ≤ _; omega)]
        have e : (k + 1) * 5 + i - (chgList x).length = k * 5 + i := by show (k + 1) * 5 + i - 5 = _; omega
        rw [e, this]
        simp
  have hc : ∀ i u, i < 5 → (chgList ps[j])[i]? = some u → w.cell? ⟨g, j * 5 + i, none⟩ = some u := by
    intro i u hi hu
    have := h.cells (g := g) rfl (j * 5 + i) u (by rw [flat ps j hj i hi]; exact hu)
    rw [addr_add, Nat.zero_add] at this
    exact this
  exact ⟨hc 0 _ (by omega) rfl, hc 1 _ (by omega) rfl, hc 2 _ (by omega) rfl, hc 3 _ (by omega) rfl, hc 4 _ (by omega) rfl⟩

/-- the world behind the five stores at the end -/
def finW (w : World) (r : Nat) (v : Value) : World := ((((w.setCell ⟨r, 1, none⟩ v).setCell ⟨r, 2, none⟩ v).setCell ⟨r, 3, none⟩ (.slice none 0 0)).setCell ⟨r, 4, none⟩ (.bool false)).setCell ⟨r, 6, none⟩ (.bool false)

theorem crash_fin {w : World} {ρ : Nat → Role} {r : Nat} {d : DSt} {x : RSt} {vs vn vw v : Value} {ls ln l : List Fv} {ps : List (Change × Value)} {keep torn : Int} (h : RS w ρ r x vs vn vw ls ln ps) (hd : RD d x ls ln ps)
    (hf : Fl w v l) (ha : Aw w ρ r v) (hb : ∀ q ∈ l, q.2.2 ≠ [] → Aw w ρ r q.2.1) (he : files l = crashF d keep torn) :
    Kp (fun k => k = r) w (finW w r v) ∧ ∃ x' vs' vn' vw' ls' ln' ps', RS (finW w r v) ρ r x' vs' vn' vw' ls' ln' ps' ∧ RD (crashD d keep torn) x' ls' ln' ps' := by
  have s1 := h.put_syn hf ha hb (kp_p w r 1 _) (h.at_.set_syn v)
  have s2 := s1.put_now s1.fs s1.sa s1.bs (kp_p _ r 2 _) (s1.at_.set_now v)
  have s3 := s2.put_wait (Wt.nil _) (Aw.nil _ _ _ _ _) (fun q hq => by cases hq) (kp_p _ r 3 _) (s2.at_.set_wait _)
  have s4 := s3.own (kp_p _ r 4 _) (s3.at_.set_fused false)
  have s5 := s4.own (kp_p _ r 6 _) (s4.at_.set_down false)
  refine ⟨(((((Kp.refl _ w).trans' (kp_p _ _ _ _)).trans' (kp_p _ _ _ _)).trans' (kp_p _ _ _ _)).trans' (kp_p _ _ _ _)).trans' (kp_p _ _ _ _), _, _, _, _, _, _, _, s5, ?_⟩
  exact ⟨hd.room, rfl, rfl, hd.fuse0, hd.fuse1, he, by rw [he]; rfl, rfl⟩

/-- the cells at the end, one behind the other -/
structure FinC (w : World) (r : Nat) (v : Value) : Prop where
  g1 : ∃ u, w.cell? ⟨r, 1, none⟩ = some u
  f1 : w.frozen? ⟨r, 1, none⟩ = false
  g2 : ∃ u, (w.setCell ⟨r, 1, none⟩ v).cell? ⟨r, 2, none⟩ = some u
  f2 : (w.setCell ⟨r, 1, none⟩ v).frozen? ⟨r, 2, none⟩ = false
  g3 : ∃ u, ((w.setCell ⟨r, 1, none⟩ v).setCell ⟨r, 2, none⟩ v).cell? ⟨r, 3, none⟩ = some u
  f3 : ((w.setCell ⟨r, 1, none⟩ v).setCell ⟨r, 2, none⟩ v).frozen? ⟨r, 3, none⟩ = false
  g4 : ∃ u, (((w.setCell ⟨r, 1, none⟩ v).setCell ⟨r, 2, none⟩ v).setCell ⟨r, 3, none⟩ (.slice none 0 0)).cell? ⟨r, 4, none⟩ = some u
  f4 : (((w.setCell ⟨r, 1, none⟩ v).setCell ⟨r, 2, none⟩ v).setCell ⟨r, 3, none⟩ (.slice none 0 0)).frozen? ⟨r, 4, none⟩ = false
  g6 : ∃ u, ((((w.setCell ⟨r, 1, none⟩ v).setCell ⟨r, 2, none⟩ v).setCell ⟨r, 3, none⟩ (.slice none 0 0)).setCell ⟨r, 4, none⟩ (.bool false)).cell? ⟨r, 6, none⟩ = some u
  f6 : ((((w.setCell ⟨r, 1, none⟩ v).setCell ⟨r, 2, none⟩ v).setCell ⟨r, 3, none⟩ (.slice none 0 0)).setCell ⟨r, 4, none⟩ (.bool false)).frozen? ⟨r, 6, none⟩ = false
theorem RAt.fin {w : World} {r : Nat} {x : RSt} {vs vn vw : Value} (h : RAt w r x vs vn vw) (v : Value) : FinC w r v := by
  have a1 := h.set_syn v
  have a2 := a1.set_now v
  have a3 := a2.set_wait (.slice none 0 0)
  have a4 := a3.set_fused false
  exact ⟨⟨_, h.c1⟩, h.warm 1, ⟨_, a1.c2⟩, a1.warm 2, ⟨_, a2.c3⟩, a2.warm 3, ⟨_, a3.c4⟩, a3.warm 4, ⟨_, a4.c6⟩, a4.warm 6⟩

/-- the loop -/
def CrRel (w : World) (ρ : Nat → Role) (r : Nat) (d : DSt) (k : Nat) (t i : Value) (wr : World) : Prop :=
  ∃ (j : Nat) (l : List Fv), i = .int .i64 (j : Int) ∧ j ≤ k ∧ (∃ a n c, t = .slice a n c) ∧ Fl wr t l ∧ files l = all d.syn (d.cs.take j) ∧ Kp No w wr ∧ Aw wr ρ r t ∧ ∀ q ∈ l, q.2.2 ≠ [] → Aw wr ρ r q.2.1

/-- what holds of a beginning of what waits -/
theorem take_bounds {d : DSt} {M : Nat} (hok : DOk M d) (hM : M ≤ 1000) (j : Nat) : Rising (all d.syn (d.cs.take j)) ∧ (all d.syn (d.cs.take j)).length ≤ 1000 ∧ used (all d.syn (d.cs.take j)) ≤ 10000000000 := by
  have q1 := hok.few
  have q2 := hok.small
  have q3 := len_all hok.rising (d.cs.take j)
  have q4 := used_all hok.rising (d.cs.take j)
  have q5 := bytesOf_take d.cs j
  have q6 : (d.cs.take j).length ≤ d.cs.length := by rw [List.length_take]; omega
  exact ⟨rising_all hok.rising _, by omega, by omega⟩
theorem bytes_le (cs : List Change) (j : Nat) (h : j < cs.length) : cs[j].bytes.length ≤ bytesOf cs := by
  have h1 := bytesOf_take cs (j + 1)
  rw [List.take_succ_eq_append_getElem h, bytesOf_append] at h1
  have : bytesOf [cs[j]] = cs[j].bytes.length := by simp [bytesOf]
  omega
/-- one of them more -/
theorem take_step {d : DSt} {M : Nat} (hok : DOk M d) (hM : M ≤ 1000) {j : Nat} (hj : j < d.cs.length) : d.cs[j].fits (all d.syn (d.cs.take j)) ∧ all d.syn (d.cs.take (j + 1)) = doit (all d.syn (d.cs.take j)) d.cs[j] ∧ d.cs[j].bytes.length ≤ 10000000000 := by
  refine ⟨fitsAll_at hok.fit j hj, ?_, ?_⟩
  · rw [List.take_succ_eq_append_getElem hj, all_snoc]
  · have := bytes_le d.cs j hj
    have := hok.small
    omega

end Go.Proofs.YtomckoeobkfklaaDoor.r2
