/- Package ere: a list of trees in a block of its own. -/
import Derived.Test.YtdognehkbahmdaaEreCount2
import Derived.Test.YtdognehkbahmdaaEreQuote
namespace Go.Proofs.Ytdognehkbahmdaa.ere
open Go.RowKit Go.Proofs.Ytdognehkbahmdaa.sum Go.Proofs.Ytdognehkbahmdaa.kept Go.Proofs.Ytdognehkbahmdaa.pop Go.Proofs.Ytdognehkbahmdaa.cls Go.Proofs.Ytdognehkbahmdaa.tre Go.Proofs.Ytdognehkbahmdaa.str
set_option linter.unusedVariables false

theorem infoRe : (Try.prog.info? 27).map (fun i => (i.zero, i.size, i.bytes)) = some (some (.agg #[.int .i64 0, .int .u64 0, .int .u64 0, .int .u64 0, .int .u64 0, .slice none 0 0]), 6, 64) := by kernel_rfl
/-- what slices.Clone leaves: the same cells in a block of its own -/
def ClPost (w : World) (n : Nat) (news : List Value) (e : Ending) (w' : World) : Prop :=
  ∃ a' c', e = .returned (.slice a' n c') ∧ n ≤ c' ∧ c' ≤ 9223372036854775807 ∧ (n ≠ 0 → ∃ g, a' = some ⟨g, 0, none⟩ ∧ w.heap.size ≤ g ∧ g < w'.heap.size ∧ (∀ j u, news[j]? = some u → w'.cell? ⟨g, j, none⟩ = some u) ∧ ∀ j, w'.frozen? ⟨g, j, none⟩ = false) ∧ Kp No w w'

set_option maxRecDepth 100000 in
set_option maxHeartbeats 1000000 in
theorem rclone_any (w : World) (a : Option Addr) (n c : Nat) (news : List Value) (hlen : news.length = n * 6) (hc : n ≠ 0 → ∃ b o, a = some ⟨b, o, none⟩ ∧ ∀ j u, news[j]? = some u → w.cell? ⟨b, o + j, none⟩ = some u) (h1 : ∀ u ∈ news, u.oneCell' = true) (hn : n ≤ 1000000000) :
    Calls Try.prog 105 #[.slice a n c] w (ClPost w n news) := by
  cases a with
  | none =>
    have hn0 : n = 0 := Decidable.byContradiction fun h => by obtain ⟨_, _, e, _⟩ := hc h; cases e
    subst hn0
    have hq : ∀ w, (binOp .eql 25 (.slice none 0 c) (.slice none 0 0)).run Try.prog w = .ok (.bool true) w := fun w => Lib.run_eql_slice_nil w 25 27 none 0 c 0 0 Try.underlying25
    clear hc
    go_enter Try.func105, Try.ntmps105
    go_wp2
    go_ret
    exact ⟨none, 0, rfl, Nat.le_refl _, by decide, fun h => absurd rfl h, Kp.refl _ _⟩
  | some ad =>
    have hq : ∀ w, (binOp .eql 25 (.slice (some ad) n c) (.slice none 0 0)).run Try.prog w = .ok (.bool false) w := fun w => Lib.run_eql_slice_nil w 25 27 (some ad) n c 0 0 Try.underlying25
    obtain ⟨i0, hi, hz0, hz1, hz2⟩ := info_parts infoRe
    obtain ⟨W0, hW0⟩ : ∃ W0, w.alloc (.cells #[] 27) = W0 := ⟨_, rfl⟩
    have k0 : Kp No w W0 := by rw [← hW0]; exact (Kp.refl _ _).alloc _
    have h0 : W0.ownsRow w.heap.size 27 6 (.slice (some ⟨w.heap.size, 0, none⟩) 0 0) 0 [] := by rw [← hW0]; exact World.ownsRow_made w #[] 0 (Nat.le_refl _) (by decide) rfl
    obtain ⟨v', w2, hr, ho, hg, -, hloc⟩ : ∃ v' w', (Builtin.append_ #[25, 25] 25 #[.slice (some ⟨w.heap.size, 0, none⟩) 0 0, .slice (some ad) n c]).run Try.prog W0 = .ok v' w' ∧ w'.ownsRow w.heap.size 27 6 v' (0 + n) ([] ++ news) ∧ W0.grownBy w' (Value.ownBlock (.slice (some ⟨w.heap.size, 0, none⟩) 0 0)) ∧ (v' = .slice none 0 0 ↔ (Value.slice (some ⟨w.heap.size, 0, none⟩) 0 0) = .slice none 0 0 ∧ n = 0) ∧ (v'.ownBlock = Value.ownBlock (.slice (some ⟨w.heap.size, 0, none⟩) 0 0) ∨ v'.ownBlock = some W0.heap.size) :=
      run_append_own_at (P := Try.prog) W0 w.heap.size 25 25 27 i0 _ 6 64 Try.underlying25 hi hz0 hz1 hz2 rfl (by decide) (.slice (some ⟨w.heap.size, 0, none⟩) 0 0) 0 [] h0 ad n c news hlen
        (fun j u hu => by
          have hn0 : n ≠ 0 := fun e => by subst e; have := List.eq_nil_of_length_eq_zero (by omega : news.length = 0); rw [this] at hu; cases hu
          obtain ⟨b, o, e, hcc⟩ := hc hn0
          cases e
          rw [addr_add]
          exact k0.cell' (hcc j u hu) id) h1 (by unfold maxLen; omega) (by omega) k0.size
    rw [Nat.zero_add, List.nil_append] at ho
    have hkf : Kp No w w2 := k0.grown hg fun k hk e => by simp [Value.ownBlock] at e; omega
    have hfin : ClPost w n news (.returned v') w2 := by
      rcases ho.2 with ⟨rfl, h00⟩ | ⟨g, cap, cur, rfl, hgb, hcur, r1, r2, _⟩
      · subst h00
        exact ⟨none, 0, rfl, Nat.le_refl _, by decide, fun h => absurd rfl h, hkf⟩
      · refine ⟨_, cap, rfl, r1, by unfold maxLen at r2; omega, fun _ => ⟨g, rfl, hgb, (Array.getElem?_eq_some_iff.1 hcur).1, fun j u hu => ?_, fun j => ho.frozenAt j⟩, hkf⟩
        have := World.ownsRow.cells (g := g) ho rfl j u hu
        rw [addr_add, Nat.zero_add] at this
        exact this
    have HF := Hid_mk hfin
    have HW0 := Hid_mk hW0
    clear h0 k0 hg hloc hkf hfin ho hlen hc h1
    go_enter Try.func105, Try.ntmps105
    subst hW0
    go_wp2_with (at_builtin; (refine wpList_append_run rfl _ _ _ _ rfl hr ?_))
    go_wp2
    go_ret
    exact HF.out

end Go.Proofs.Ytdognehkbahmdaa.ere
