/- SplitPlays: steps, and what its walk stands on. -/
import Derived.Test.YtpfpnlhihnfahaaDoorSplitTwoM

namespace Go.Proofs.YtpfpnlhihnfahaaDoor.spl
open Go.RowKit Go.Maps Go.Proofs.YtpfpnlhihnfahaaDoor.sum Go.Proofs.YtpfpnlhihnfahaaDoor.kept Go.Proofs.YtpfpnlhihnfahaaDoor.app Go.Proofs.YtpfpnlhihnfahaaDoor.writer Go.Proofs.YtpfpnlhihnfahaaDoor.clone Go.Proofs.YtpfpnlhihnfahaaDoor.known Go.Proofs.YtpfpnlhihnfahaaDoor.unseal Go.Proofs.YtpfpnlhihnfahaaDoor.snp
set_option linter.unusedVariables false

/-- read: a slice of steps -/
def Sts7 (w : World) (v : Value) (l : List SR7) : Prop :=
  (∃ a cap, v = .slice a l.length cap ∧ l.length ≤ cap ∧ cap ≤ maxLen ∧ (l ≠ [] → ∃ b o, a = some ⟨b, o, none⟩ ∧ ∀ k (h : k < l.length), w.cell? ⟨b, o + k * 4, none⟩ = some (.int .i64 l[k].what) ∧
    w.cell? ⟨b, o + k * 4 + 1, none⟩ = some l[k].x ∧ w.cell? ⟨b, o + k * 4 + 2, none⟩ = some (.string l[k].rs) ∧ w.cell? ⟨b, o + k * 4 + 3, none⟩ = some (.bool l[k].near))) ∧
    ∀ s ∈ l, Bs w s.x s.bs ∧ s.bs.length ≤ 1048576 ∧ -9223372036854775808 ≤ s.what ∧ s.what ≤ 9223372036854775807
/-- a step on its own -/
structure XS (w : World) (q : Nat) (what : Int) (v : Value) (bs : List UInt8) (rs : ByteArray) (near : Bool) : Prop where
  c0 : w.cell? ⟨q, 0, none⟩ = some (.int .i64 what)
  c1 : w.cell? ⟨q, 1, none⟩ = some v
  c2 : w.cell? ⟨q, 2, none⟩ = some (.string rs)
  c3 : w.cell? ⟨q, 3, none⟩ = some (.bool near)
  byt : Bs w v bs
theorem XS.kept {S : Nat → Prop} {w w' : World} {q : Nat} {what : Int} {v : Value} {bs : List UInt8} {rs : ByteArray} {near : Bool} (h : XS w q what v bs rs near) (hk : Kp S w w') (hq : ¬ S q) (hv : bs ≠ [] → ∀ x o n c, v = .slice (some ⟨x, o, none⟩) n c → ¬ S x) : XS w' q what v bs rs near :=
  ⟨hk.cell' h.c0 hq, hk.cell' h.c1 hq, hk.cell' h.c2 hq, hk.cell' h.c3 hq, bs_keptE' h.byt hk hv⟩
theorem bs_lt {w : World} {v : Value} {bs : List UInt8} (hb : Bs w v bs) (hne : bs ≠ []) (x o n c : Nat) (e : v = .slice (some ⟨x, o, none⟩) n c) : x < w.heap.size := by
  obtain ⟨a2, c2, e2, -, -, h4⟩ := hb
  obtain ⟨b2, o2, e3, hc⟩ := h4 hne
  rw [e] at e2
  simp only [Value.slice.injEq] at e2
  rw [← e2.1] at e3
  cases e3
  exact World.block_lt_of_cell? w _ (hc 0 (List.length_pos_iff.2 hne))
theorem owns_warm' {w : World} {base : Nat} {e : TypeId} {size : Nat} {v : Value} {n : Nat} {xs : List Value} (h : w.ownsRow base e size v n xs) : ∀ g, v.ownBlock = some g → ∀ j, w.frozen? ⟨g, j, none⟩ = false := by
  intro g hg j
  rcases h.2 with ⟨rfl, _⟩ | ⟨g', cap, cur, rfl, _, hb, _⟩
  · cases hg
  · simp [Value.ownBlock] at hg
    subst hg
    simp [World.frozen?, hb]
/-- the law's own bytes, written over -/
def ZRel (w1 : World) (v : Value) (n : Nat) (i : Value) (wr : World) : Prop :=
  ∃ (k : Nat) (ys : List UInt8), k ≤ n ∧ i = .int .i64 k ∧ ys.length = n ∧ Bs wr v ys ∧ (∀ g, v.ownBlock = some g → ∀ j, wr.frozen? ⟨g, j, none⟩ = false) ∧ Kp (fun k => v.ownBlock = some k) w1 wr
theorem Tw.set4 {w0 w : World} {base p r m : Nat} {ρ : Nat → Bool} {t u : SpS} {v : Value} {bs : List UInt8} (h : Tw w0 w base p r ρ m t u) (hb : Bs w v bs) (ho : bs ≠ [] → ∀ x o n c, v = .slice (some ⟨x, o, none⟩) n c → Oth ρ r x) : Tw w0 (w.setCell ⟨r, 4, none⟩ v) base p r ρ m t { u with rest := bs } := by
  obtain ⟨vh, vr, hh⟩ := h.rs
  refine ⟨h.sp.kept ((Kp.refl (fun k => k = r) w).setCell (p := ⟨r, 4, none⟩) (fun _ => rfl) v) fun k hk e => ?_, ⟨vh, v, hh.set4 hb ho⟩, h.nr, h.kp.setCell (p := ⟨r, 4, none⟩) (fun hlt => ?_) v, h.b0, h.br⟩
  · rw [e, h.nr] at hk; cases hk
  · have := h.br
    simp only at hlt
    omega
/-- at the loop's head -/
def PlRel (w : World) (base p r m n : Nat) (iv : Value) (wr : World) : Prop :=
  ∃ (k : Nat) (ρ : Nat → Bool) (t : SpS), iv = .int .i64 (k : Int) ∧ k ≤ n ∧ k ≤ 150 ∧ Tw w wr base p r ρ m t t ∧ OkS m t ∧ t.rest.length ≤ k * 1048577

theorem goS_rest (m : Nat) (rs : List UInt8) : ∀ (r : List UInt8) (s : SpS), (goS m rs r s).2.rest.length ≤ r.length
  | [], s => Nat.zero_le _
  | b :: r, s => by
    rw [goS_cons]
    split
    · show (lookS m rs { s with rest := r } b).2.rest.length ≤ _
      rw [lookS_rest]
      simp
    · have := goS_rest m rs r (lookS m rs { s with rest := r } b).2
      simp
      omega
theorem nextS_rest (m : Nat) (rs : List UInt8) (s : SpS) : (nextS m rs s).2.rest.length ≤ s.rest.length + 1 := by
  unfold nextS
  refine Nat.le_trans (goS_rest m rs _ _) ?_
  unfold readyS
  split <;> simp
theorem lastS_rest (m : Nat) (rs : List UInt8) (s : SpS) : (lastS m rs s).2.rest.length ≤ s.rest.length + 1 := by
  have h := nextS_rest m rs s
  unfold lastS
  obtain ⟨A, hA⟩ : ∃ A, nextS m rs s = A := ⟨_, rfl⟩
  rw [hA] at h ⊢
  obtain ⟨a, t⟩ := A
  cases a with
  | some r => exact h
  | none =>
    show (if t.held = [] ∧ t.over = false then (none, t) else (some t.held, endS t)).2.rest.length ≤ _
    split
    · exact h
    · exact h

end Go.Proofs.YtpfpnlhihnfahaaDoor.spl
