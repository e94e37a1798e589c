/- A copy of files in memory. -/
import Derived.Test.YtomckoeobkfklaaDoorFsUsed
namespace Go.Proofs.YtomckoeobkfklaaDoor.fsUsed
open Go.RowKit Go.Maps Go.Proofs.YtomckoeobkfklaaDoor.sum Go.Proofs.YtomckoeobkfklaaDoor.kept Go.Proofs.YtomckoeobkfklaaDoor.app Go.Proofs.YtomckoeobkfklaaDoor.writer Go.Proofs.YtomckoeobkfklaaDoor.clone Go.Proofs.YtomckoeobkfklaaDoor.fs Go.Proofs.YtomckoeobkfklaaDoor.fsMem Go.Proofs.YtomckoeobkfklaaDoor.fsDo
set_option linter.unusedVariables false

theorem run_makeMap_n (n : Nat) (w : World) : (Instr.makeMap 41 (some (.int .i64 (n : Int)))).run Tryd.prog w = .ok (.map (some w.heap.size)) (w.alloc (.map #[] 0)) := by
  simp [Instr.makeMap, run_underlying Tryd.underlying41, asInt, newObj, Result.andThen]
  rfl

theorem kp_grown {w w' : World} {b : Nat} (h : Kp (fun k => k = b) w w') : w.grownBy w' (some b) := ⟨h.os, h.tape, h.output, h.size, fun k hk hn => h.block k hk fun e => hn (by rw [e])⟩
theorem kp_grown0 {w w' : World} (h : Kp No w w') : w.grownBy w' none := ⟨h.os, h.tape, h.output, h.size, fun k hk _ => h.block k hk id⟩

def CRel (w : World) (b : Nat) (val : Name → Value) (es : Files) (wr : World) : Prop :=
  ∃ left cnt ρ', wr.ranges Tryd.prog 9 raw b (w.heap.size + 1) es.length (dat val es) left cnt ∧ FM wr w.heap.size w.heap.size ρ' (gone es left) ∧ (∀ k, (ρ' k).isSome = true → w.heap.size ≤ k) ∧ ρ' (w.heap.size + 1) = none ∧ Kp No w wr

/-- A copy: a new map of new rows. -/
def CopyPost (w : World) (es : Files) (e : Ending) (w' : World) : Prop :=
  ∃ c ρ', e = .returned (.map (some c)) ∧ FM w' w.heap.size c ρ' es ∧ (∀ k, (ρ' k).isSome = true → w.heap.size ≤ k) ∧ Kp No w w'

set_option maxRecDepth 100000 in
set_option maxHeartbeats 4000000 in
theorem copied_any (w : World) (base b : Nat) (ρ : Nat → Option Name) (es : Files) (h : FM w base b ρ es) (hu : used es ≤ 140737488355328) (hl : es.length < maxLen) :
    Calls Tryd.prog 41 #[.map (some b)] w (CopyPost w es) := by
  obtain ⟨h1, h2, h3, val, h4, h5⟩ := h
  have hlt := h4.lt
  have HR := Hid_mk h1
  have H5 := Hid_mk h5
  have H4 := Hid_mk h4
  have HL := Hid_mk hl
  have hmm := run_makeMap_n
  have HM0 : Hid ((w.alloc (.map #[] 0)).ownsMap Tryd.prog 9 raw w.heap.size 0 (.map [])) := Hid_mk (World.ownsMap_made w _ _ _)
  clear h5 h2 h3 hl
  go_enter Tryd.func41, Tryd.ntmps41
  go_wp2_with (first
    | (at_len; refine wpList_len_own _ rfl _ 41 rfl 9 34 Tryd.underlying41 _ b es.length _ rfl h4 ?_)
    | (at_range; refine wpList_range_own _ rfl _ 41 rfl 9 34 law Tryd.underlying41 _ b es.length _ rfl (H4.out.alloc _) ?_; intro w0 hrg0 hg0 hs0))
  go_frame
  have HK0 : Hid (Kp No w w0) := Hid_mk (((Kp.refl No w).alloc (.map #[] 0)).trans' ⟨hg0.os, hg0.tape, hg0.output, hg0.size, fun k hk _ => hg0.block k hk (by simp)⟩)
  have hsa : (w.alloc (.map #[] 0)).heap.size = w.heap.size + 1 := by simp
  rw [hsa] at hrg0 hs0 ⊢
  have HFM0 : Hid (FM w0 w.heap.size w.heap.size (fun _ => none) []) := Hid_mk
    ⟨rising_nil, rfl, Nat.le_refl _, val, HM0.out.kept hg0 (by simp), fun e he => by cases he⟩
  have HG0 := Hid_mk hrg0
  clear hrg0 hg0 hs0 h4 hmm
  go_loopw [5] (fun u wr => CRel w b val es wr) (fun _ wr => wr.rangeLeft b (w.heap.size + 1))
  case atStart =>
    refine ⟨_, _, fun _ => none, HG0.out, ?_, fun k hk => by simp at hk, rfl, HK0.out⟩
    rw [gone_start (fun e he => by rw [dat_has, (get_some HR.out).2 (show (e.1, e.2) ∈ es from he)]; rfl)]
    exact HFM0.out
  case round =>
    obtain ⟨left, cnt, ρ', hrg, hfm, hnew, hrr, hk⟩ := hrel
    have HK := Hid_mk hk
    have HRG := Hid_mk hrg
    have HFM := Hid_mk hfm
    have HNew := Hid_mk hnew
    have hsz := hk.size
    clear hk hrg hfm hnew
    go_wp2_with (at_next; refine wpList_next_ranges _ rfl _ rfl 9 law raw Value.string (fun v : Value => v) (fun key kl hk => key_inv hk) (fun v y _ => ⟨v, rfl⟩) b (w.heap.size + 1) es.length (dat val es) left cnt rfl HRG.out ?_ ?_)
    · intro _ hl0
      have hfin : CopyPost w es (.returned (.map (some w.heap.size))) wr := ⟨w.heap.size, ρ', rfl, by have := HFM.out; rwa [gone_end hl0] at this, HNew.out, HK.out⟩
      have HF := Hid_mk hfin
      clear hfin
      go_wp2
      go_ret
      exact HF.out
    · intro x c kl ya yb w1 cnt1 hkx hlx hy hat hrg1 hlt1 hg1 hs1 hen
      obtain ⟨rfl, hxs⟩ := key_inv2 hkx
      obtain ⟨rfl, bs, hm⟩ := entry_of (y := (ya, yb)) HR.out hy hat
      have hrow := H5.out _ hm (by simp)
      have hlen : bs.length ≤ 140737488355328 := by
        have := get_len HR.out (nm x)
        rw [(get_some HR.out).2 hm] at this
        simp at this
        omega
      have kg1 : Kp (fun k => k = w.heap.size + 1) wr w1 := (Kp.refl _ wr).grown hg1 fun k hk e => (Option.some.inj e).symm
      have hk1 : Kp No w w1 := HK.out.trans kg1 fun i hi e => by omega
      have hbs1 := bs_no (owns_bs hrow.1) hk1
      have hrlt := hrg1.lt
      have hfm1 : FM w1 w.heap.size w.heap.size ρ' (gone es left) := HFM.out.kept kg1 (fun k hk e => ⟨by omega, fun n hn => by
        rw [e, hrr] at hn; cases hn⟩) fun _ _ => rfl
      have HFM1 := Hid_mk hfm1
      have HRG1 := Hid_mk hrg1
      have HK1 := Hid_mk hk1
      have HMem := Hid_mk hm
      have hs1' := hk1.size
      obtain ⟨a, cap, hv, -, -, -⟩ := id hbs1
      simp only at hv
      rw [hv] at hen hbs1 ⊢
      have HBs := Hid_mk hbs1
      have HM : Hid (w1.rangeLeft b (w.heap.size + 1) < wr.rangeLeft b (w.heap.size + 1)) := Hid_mk (by rw [hrg1.left_eq, HRG.out.left_eq]; exact hlt1)
      have HLx := Hid_mk hlx
      clear hrow hm hat hy hg1 hkx hk1 hv hbs1 hfm1 hrg1 kg1 hlx
      have hclone := clone_any w1 _ bs HBs.out hlen
      have HClone := Hid_mk hclone
      clear hclone
      go_wp2_with fail
      refine HClone.out.mono ?_
      rintro e w2 ⟨v2, rfl, ho2, hk2⟩
      obtain ⟨ρ1, hρ1⟩ : ∃ ρ1 : Nat → Option Name, ρ1 = fun k => if some k = v2.ownBlock then some (nm x) else ρ' k := ⟨_, rfl⟩
      have hold : ∀ k, k < w1.heap.size → ρ1 k = ρ' k := fun k hk => by
        rw [hρ1]
        simp only
        rw [if_neg]
        intro e
        have := (ho2.lt k e.symm).1
        omega
      have hfm2 : FMx (some (nm x)) w2 w.heap.size w.heap.size ρ1 (gone es left) := (FMx.weak HFM1.out (nm x)).kept hk2 (fun _ _ x => x.elim) hold
      have hrow2 : RowOf w2 w.heap.size ρ1 v2 (nm x) bs := ⟨owns_base ho2 (by omega), fun g hg => by rw [hρ1]; simp [hg]⟩
      have hl2 : (gone es left).length < maxLen := Nat.lt_of_le_of_lt (List.length_filter_le _ _) HL.out
      obtain ⟨w3, hr3, hfm3, hk3⟩ := hfm2.store hxs hl2 hrow2
      rw [← gone_step HR.out HMem.out HLx.out] at hfm3
      have hrg3 := (HRG1.out.kept (kp_grown0 hk2) (by simp) (by simp)).kept (kp_grown hk3) (fun e => by have := Option.some.inj e; omega) (fun e => by have := Option.some.inj e; omega)
      have hk13 : Kp No w w3 := (HK1.out.trans' hk2).trans hk3 fun i hi e => by omega
      have hfin : CRel w b val es w3 := by
        refine ⟨_, _, ρ1, hrg3, hfm3, fun k hk => ?_, ?_, hk13⟩
        · rw [hρ1] at hk
          simp only at hk
          split at hk
          · rename_i e; have := (ho2.lt k e.symm).1; omega
          · exact HNew.out k hk
        · rw [hold _ (by omega)]; exact hrr
      have HF := Hid_mk hfin
      have HM3 : Hid (w3.rangeLeft b (w.heap.size + 1) < wr.rangeLeft b (w.heap.size + 1)) := Hid_mk (by rw [hrg3.left_eq, ← HRG1.out.left_eq]; exact HM.out)
      rcases owns_any ho2 with ⟨rfl, _⟩ | ⟨g, cp, rfl, -, -, -, -⟩
      · clear hfin hk13 hrg3 hfm3 hk3 hl2 hrow2 hfm2 hold hρ1 ho2 hk2
        go_wp2
        go_roundw
        case rel => exact HF.out
        case measure => exact HM3.out
      · clear hfin hk13 hrg3 hfm3 hk3 hl2 hrow2 hfm2 hold hρ1 ho2 hk2
        go_wp2
        go_roundw
        case rel => exact HF.out
        case measure => exact HM3.out

end Go.Proofs.YtomckoeobkfklaaDoor.fsUsed
