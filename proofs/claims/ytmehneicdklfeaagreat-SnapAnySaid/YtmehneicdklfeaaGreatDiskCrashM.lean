/- (*Disk).Crash. What a crash leaves is in bounds. New's refusal, Fuse, Down, Pending, the Append of a disk that has stopped. -/
import Derived.Test.YtmehneicdklfeaaGreatDiskNewM
import Derived.Deep.RegionWith
import Derived.RegionCalls

namespace Go.Proofs.YtmehneicdklfeaaGreat.dsk
open Go.RowKit Go.Maps Go.Proofs.YtmehneicdklfeaaGreat.sum Go.Proofs.YtmehneicdklfeaaGreat.kept Go.Proofs.YtmehneicdklfeaaGreat.app Go.Proofs.YtmehneicdklfeaaGreat.writer Go.Proofs.YtmehneicdklfeaaGreat.clone Go.Proofs.YtmehneicdklfeaaGreat.unseal Go.Proofs.YtmehneicdklfeaaGreat.fs Go.Proofs.YtmehneicdklfeaaGreat.fsMem Go.Proofs.YtmehneicdklfeaaGreat.fsDo Go.Proofs.YtmehneicdklfeaaGreat.fsUsed Go.Proofs.YtmehneicdklfeaaGreat.turned
set_option linter.unusedVariables false

/-- the map of what is there now is a new one: a copy of what is synced -/
theorem DkAt.renow {w w1 : World} {base p : Nat} {ρ : Nat → Role} {d : DSt} {nw : Files} {s n c : Nat} {vp : Value} {ps : List (Change × Value)} {ρc : Nat → Option Name} (h : DkAt w base p ρ d nw s n vp ps)
    (hfm : FM w1 w.heap.size c ρc d.syn) (hrc : ∀ k, (ρc k).isSome = true → w.heap.size ≤ k) (hk : Kp No w w1) :
    ∃ ρ2, DkAt (w1.setCell ⟨p, 4, none⟩ (.map (some c))) base p ρ2 d d.syn s c vp ps ∧ Fr ρ w ρ2 (w1.setCell ⟨p, 4, none⟩ (.map (some c))) := by
  have hbw : base ≤ w.heap.size := by have := h.bp; have := h.lt; omega
  have hcw : w.heap.size ≤ c := hfm.2.2.1
  have hcl := hfm.lt
  have hs := hk.size
  have hss : (w1.setCell ⟨p, 4, none⟩ (.map (some c))).heap.size = w1.heap.size := by simp [World.setCell]
  have h1 := h.no hk
  obtain ⟨ρ2, hρ2⟩ : ∃ ρ2 : Nat → Role, ρ2 = fun k => if k < w.heap.size then (match ρ k with | .nmap => .other | .nrow _ => .other | r => r) else if k < w1.heap.size then (if k = c then .nmap else match ρc k with | some m => .nrow m | none => .other) else .other := ⟨_, rfl⟩
  have keep : ∀ k, k < w.heap.size → ρ k ≠ .nmap → (∀ m, ρ k ≠ .nrow m) → ρ2 k = ρ k := fun k hk h1 h2 => by
    rw [hρ2]; simp only [if_pos hk]
    all_goals (cases hr : ρ k <;> first | exact absurd hr h1 | exact absurd hr (h2 _) | rfl)
  have newc : ρ2 c = .nmap := by rw [hρ2]; simp only; rw [if_neg (by omega), if_pos hcl]; simp
  have nof : ∀ k, k < w1.heap.size → nOf ρ2 k = ρc k := by
    intro k hk1
    by_cases hkw : k < w.heap.size
    · have e0 : ρc k = none := by
        cases hh : ρc k with
        | none => rfl
        | some m => have := hrc k (by rw [hh]; rfl); omega
      rw [e0]
      refine nOf_none fun m => ?_
      rw [hρ2]; simp only [if_pos hkw]
      cases hr : ρ k <;> simp
    · by_cases hkc : k = c
      · subst hkc
        have e0 : ρc k = none := hfm.2.1
        rw [e0]
        exact nOf_none (by rw [newc]; simp)
      · unfold nOf
        rw [hρ2]; simp only; rw [if_neg hkw, if_pos hk1, if_neg hkc]
        cases ρc k <;> rfl
  have sof : ∀ k, k < w.heap.size → sOf ρ2 k = sOf ρ k := by
    intro k hkw
    unfold sOf
    rw [hρ2]; simp only [if_pos hkw]
    cases hr : ρ k <;> rfl
  have kp : Kp (fun k => k = p) w1 (w1.setCell ⟨p, 4, none⟩ (.map (some c))) := kp_p _ _ _ _
  have kp2 : Kp (fun k => k = p) w (w1.setCell ⟨p, 4, none⟩ (.map (some c))) := hk.to.trans kp fun _ _ e => e
  have e4 := h1.c4
  refine ⟨ρ2, ⟨cell_ne h1.c0 (by omega), cell_ne h1.c1 (by omega), cell_ne h1.c2 (by omega), cell_ne h1.c3 (by omega), World.cell?_setCell_same w1 _ _ e4, cell_ne h1.c5 (by omega), warm_set h1.warm, ?_, ?_, h.cs, owns_kept h1.pend kp fun k e e2 => ?_,
    fun q hq => ⟨bs_kept (h1.byts q hq).1 kp fun x o m cc e e2 => ?_, fun x o m cc e => ⟨?_, ?_⟩⟩, ?_, ?_, newc, fun g hg => ?_, h.bp, fun k hk1 => ?_, fun k hk1 => ?_⟩, ⟨kp2.mono fun k _ e => by rw [e, h.rp]; simp, fun k hk1 e => ?_⟩⟩
  · refine h.syn.kept kp2 (fun k hkw e => ⟨fun e2 => ?_, fun m hm => ?_⟩) sof
    · have := h.rs; rw [← e2, e, h.rp] at this; cases this
    · rw [e] at hm; rw [sOf_none (by rw [h.rp]; simp)] at hm; cases hm
  · have hb : FM w1 base c ρc d.syn := by
      obtain ⟨q1, q2, q3, val, q4, q5⟩ := hfm
      exact ⟨q1, q2, by omega, val, q4, fun e he hx => ⟨owns_base (q5 e he hx).1 hbw, (q5 e he hx).2⟩⟩
    refine hb.kept kp (fun k hkw e => ⟨fun e2 => ?_, fun m hm => ?_⟩) nof
    · have := h.lt; omega
    · have := hrc k (by rw [hm]; rfl); have := h.lt; omega
  · have := h.rv k e; rw [e2, h.rp] at this; cases this
  · have := ((h.byts q hq).2 x o m cc e).1; rw [e2, h.rp] at this; cases this
  · have hb := (h.byts q hq).2 x o m cc e
    rw [keep x hb.2 (by rw [hb.1]; simp) (by rw [hb.1]; simp)]; exact hb.1
  · have hb := (h.byts q hq).2 x o m cc e; omega
  · rw [keep p h.lt (by rw [h.rp]; simp) (by rw [h.rp]; simp)]; exact h.rp
  · rw [keep s h.syn.lt (by rw [h.rs]; simp) (by rw [h.rs]; simp)]; exact h.rs
  · have hr := h.rv g hg
    rw [keep g (h.pend.lt g hg).2 (by rw [hr]; simp) (by rw [hr]; simp)]; exact hr
  · by_cases hkw : k < w.heap.size
    · refine h.low k fun e => hk1 ?_
      rw [hρ2]; simp only [if_pos hkw]; rw [e]
    · omega
  · rw [hρ2]; simp only; rw [if_neg (by omega), if_neg (by omega)]
  · rw [hρ2]; simp only [if_pos hk1]; rw [e]

def crashK (d : DSt) (keep : Int) : Nat := (keep % ((d.cs.length : Int) + 1)).toNat
def crashF (d : DSt) (keep torn : Int) : Files := match d.cs[crashK d keep]? with
  | some c => tearF (all d.syn (d.cs.take (crashK d keep))) c torn
  | none => all d.syn (d.cs.take (crashK d keep))
def crashD (d : DSt) (keep torn : Int) : DSt := ⟨d.room, -1, false, crashF d keep torn, []⟩

theorem crashK_le (d : DSt) (keep : Int) : crashK d keep ≤ d.cs.length ∧ keep % ((d.cs.length : Int) + 1) = (crashK d keep : Int) := by
  unfold crashK
  have h1 := Int.emod_nonneg keep (show (d.cs.length : Int) + 1 ≠ 0 by omega)
  have h2 := Int.emod_lt_of_pos keep (show (0 : Int) < (d.cs.length : Int) + 1 by omega)
  omega

/-- what is left when all is settled, and torn, if there is something to tear -/
theorem crash_end (w : World) (base p : Nat) (ρ : Nat → Role) (d : DSt) (nw : Files) (s n : Nat) (h : DkAt w base p ρ d nw s n (.slice none 0 0) []) (c : Nat) (ρc : Nat → Option Name) (w1 : World) (hfm : FM w1 w.heap.size c ρc d.syn) (hrc : ∀ k, (ρc k).isSome = true → w.heap.size ≤ k) (hk : Kp No w w1) :
    ∃ ρ2, Dk (((w1.setCell ⟨p, 4, none⟩ (.map (some c))).setCell ⟨p, 1, none⟩ (.int .i64 (-1))).setCell ⟨p, 2, none⟩ (.bool false)) base p ρ2 ⟨d.room, -1, false, d.syn, []⟩ ∧ Fr ρ w ρ2 (((w1.setCell ⟨p, 4, none⟩ (.map (some c))).setCell ⟨p, 1, none⟩ (.int .i64 (-1))).setCell ⟨p, 2, none⟩ (.bool false)) := by
  obtain ⟨ρ2, h2, hfr⟩ := h.renow hfm hrc hk
  have h3 := (h2.set_fuse (-1)).set_down false
  have hcs : d.cs = [] := by rw [← h.cs]; rfl
  refine ⟨ρ2, ⟨s, c, .slice none 0 0, [], ?_⟩, (hfr.trans (Fr.of_p (kp_p _ _ _ _) h2.rp)).trans (Fr.of_p (kp_p _ _ _ _) h2.rp)⟩
  cases d
  simp only at hcs
  subst hcs
  exact h3

theorem crash_tail (wT : World) (base p : Nat) (ρT : Nat → Role) (d : DSt) (nw : Files) (s n : Nat) (h : DkAt wT base p ρT d nw s n (.slice none 0 0) []) (hu : used d.syn ≤ 140737488355328) (hl : d.syn.length < maxLen) :
    Calls Tryz.prog 57 #[.map (some s)] wT fun e w1 => ∃ c, e = .returned (.map (some c)) ∧ (∃ v, w1.cell? ⟨p, 1, none⟩ = some v) ∧ (∃ v, w1.cell? ⟨p, 2, none⟩ = some v) ∧ (∃ v, w1.cell? ⟨p, 4, none⟩ = some v) ∧ (∀ o, w1.frozen? ⟨p, o, none⟩ = false) ∧
      ∃ ρ2, Dk (((w1.setCell ⟨p, 4, none⟩ (.map (some c))).setCell ⟨p, 1, none⟩ (.int .i64 (-1))).setCell ⟨p, 2, none⟩ (.bool false)) base p ρ2 ⟨d.room, -1, false, d.syn, []⟩ ∧ Fr ρT wT ρ2 (((w1.setCell ⟨p, 4, none⟩ (.map (some c))).setCell ⟨p, 1, none⟩ (.int .i64 (-1))).setCell ⟨p, 2, none⟩ (.bool false)) := by
  refine (copied_any wT base s (sOf ρT) d.syn h.syn hu hl).mono ?_
  rintro e w1 ⟨c, ρc, he, hfm, hrc, hk⟩
  have h1 := h.no hk
  exact ⟨c, he, ⟨_, h1.c1⟩, ⟨_, h1.c2⟩, ⟨_, h1.c4⟩, h1.warm, crash_end wT base p ρT d nw s n h c ρc w1 hfm hrc hk⟩

theorem crash_bounds {M : Nat} {d : DSt} (hok : DOk M d) (hM : M ≤ 1000000) (keep torn : Int) :
    used (crashF d keep torn) ≤ M * 8388608 ∧ (crashF d keep torn).length ≤ M ∧ Rising (crashF d keep torn) := by
  obtain ⟨hk, -⟩ := crashK_le d keep
  have hr := rising_all hok.rising (d.cs.take (crashK d keep))
  have hu := used_all hok.rising (d.cs.take (crashK d keep))
  have hl := len_all hok.rising (d.cs.take (crashK d keep))
  have htl : (d.cs.take (crashK d keep)).length = crashK d keep := by rw [List.length_take]; omega
  have hf := hok.few
  have hs := hok.small
  have hb := bytesOf_take d.cs (crashK d keep)
  unfold crashF
  cases hc : d.cs[crashK d keep]? with
  | none => exact ⟨by simp only; omega, by simp only; omega, hr⟩
  | some c =>
    simp only
    obtain ⟨hlt, hcc⟩ := List.getElem?_eq_some_iff.mp hc
    have hb2 : bytesOf (d.cs.take (crashK d keep)) + c.bytes.length ≤ bytesOf d.cs := by
      have := bytesOf_take d.cs (crashK d keep + 1)
      rw [List.take_succ_eq_append_getElem hlt, bytesOf_append, hcc] at this
      simpa [bytesOf] using this
    unfold tearF
    split
    · exact ⟨by omega, by omega, hr⟩
    · have h1 := used_doit hr { c with bytes := c.bytes.take (tornN c torn) }
      have h2 := len_doit hr { c with bytes := c.bytes.take (tornN c torn) }
      have h3 := rising_doit hr { c with bytes := c.bytes.take (tornN c torn) }
      have h4 : (c.bytes.take (tornN c torn)).length ≤ c.bytes.length := by rw [List.length_take]; omega
      refine ⟨?_, by omega, h3⟩
      simp only at h1
      split at h1 <;> omega

set_option maxRecDepth 100000 in
set_option maxHeartbeats 4000000 in
theorem crash_any (w : World) (base p M : Nat) (ρ : Nat → Role) (d : DSt) (keep torn : Int) (h : Dk w base p ρ d) (hok : DOk M d) (hM : M ≤ 1000000) :
    Calls Tryz.prog 21 #[.pointer (some ⟨p, 0, none⟩), .int .i64 keep, .int .i64 torn] w (StPost base p ρ (crashD d keep torn) w (.int .i64 (crashK d keep : Int))) := by
  obtain ⟨s, n, vp, ps, h⟩ := h
  have hpl : ps.length = d.cs.length := by rw [← h.cs, List.length_map]
  obtain ⟨hk1, hk2⟩ := crashK_le d keep
  obtain ⟨hu, hl, hri⟩ := crash_bounds hok hM keep torn
  have hfew := hok.few
  have hwi := within_any w keep (ps.length : Int) (by omega) (by omega)
  rw [hpl, hk2] at hwi
  obtain ⟨k, hk⟩ : ∃ k, crashK d keep = k := ⟨_, rfl⟩
  have hse := settle_any w base p M ρ d d.now s n vp ps k h hok hM (by omega)
  have hMs : M * 8388608 ≤ 1000000 * 8388608 := Nat.mul_le_mul_right _ hM
  -- the end of it, from any world in which the last change is torn
  have hend : ∀ wT ρT, DkAt wT base p ρT { d with syn := crashF d keep torn, cs := [] } d.now s n (.slice none 0 0) [] → Fr ρ w ρT wT →
      Calls Tryz.prog 57 #[.map (some s)] wT fun e w1 => ∃ c, e = .returned (.map (some c)) ∧ (∃ v, w1.cell? ⟨p, 1, none⟩ = some v) ∧ (∃ v, w1.cell? ⟨p, 2, none⟩ = some v) ∧ (∃ v, w1.cell? ⟨p, 4, none⟩ = some v) ∧ (∀ o, w1.frozen? ⟨p, o, none⟩ = false) ∧
        ∃ ρ2, Dk (((w1.setCell ⟨p, 4, none⟩ (.map (some c))).setCell ⟨p, 1, none⟩ (.int .i64 (-1))).setCell ⟨p, 2, none⟩ (.bool false)) base p ρ2 (crashD d keep torn) ∧ Fr ρ w ρ2 (((w1.setCell ⟨p, 4, none⟩ (.map (some c))).setCell ⟨p, 1, none⟩ (.int .i64 (-1))).setCell ⟨p, 2, none⟩ (.bool false)) := by
    intro wT ρT hT hfr
    refine (crash_tail wT base p ρT _ d.now s n hT (by simp only; omega) (by simp only; unfold maxLen; omega)).mono ?_
    rintro e w1 ⟨c, he, q1, q2, q3, q4, ρ2, q5, q6⟩
    exact ⟨c, he, q1, q2, q3, q4, ρ2, q5, hfr.trans q6⟩
  have HEnd := Hid_mk hend
  have c5 := h.c5
  rw [hk] at hwi ⊢
  have HWi := Hid_mk hwi
  have HSe := Hid_mk hse
  have HCs := Hid_mk h.cs
  have HOk := Hid_mk hok
  have HK := Hid_mk hk
  by_cases hkn : k = d.cs.length
  · -- nothing is left
    have hF : crashF d keep torn = all d.syn (d.cs.take k) := by
      unfold crashF; rw [hk, List.getElem?_eq_none (by omega)]
    rw [hF] at HEnd
    have HF := Hid_mk hF
    rcases owns_any h.pend with ⟨rfl, hz⟩ | ⟨g, cap, rfl, hg1, hg2, hg3, hg4⟩
    · have hcl : d.cs.length = 0 := by omega
      have hk0 : k = 0 := by omega
      subst hk0
      rw [hcl] at HWi
      have hz0 : ((0 : Nat) : Int) = 0 := rfl
      rw [hz0] at HWi HSe ⊢
      clear h hok hwi hse hend hF hu hl hri hk1 hk2 hkn hcl hpl hz hk hfew hMs hz0
      go_enter Tryz.func21, Tryz.ntmps21
      go_wp2_with fail
      with_reducible refine HWi.out.mono ?_
      rintro e w1 ⟨rfl, rfl⟩
      go_wp2_with fail
      with_reducible refine HSe.out.mono ?_
      rintro e wT ⟨rfl, ρT, hT, hfr, -⟩
      have d3 := hT.c3
      have HE := Hid_mk (HEnd.out wT ρT hT hfr)
      clear hT hfr
      go_wp2_with fail
      with_reducible refine HE.out.mono ?_
      rintro e w1 ⟨c, rfl, ⟨v1, q1⟩, ⟨v2, q2⟩, ⟨v4, q4⟩, qw, hfin⟩
      have HFin := Hid_mk hfin
      have qw1 := qw 1
      have qw2 := qw 2
      have qw4 := qw 4
      clear hfin
      go_wp2
      go_ret
      exact ⟨rfl, HFin.out⟩
    · unfold maxLen at hg4
      have hN : ps.length = k := by omega
      rw [hN] at c5 HSe
      have hkc : (k : Int) ≤ (cap : Int) := by omega
      have hk0 : (0 : Int) ≤ (k : Int) := by omega
      have hkk : (k : Int) - (k : Int) = 0 := by omega
      rw [show (d.cs.length : Int) = (k : Int) by omega] at HWi
      clear h hok hwi hse hend hF hu hl hri hk1 hk2 hkn hpl hk hfew hMs hN
      have hcz : ¬ cap = k → ¬ cap - k = 0 := by omega
      by_cases hck : cap = k
      · subst hck
        clear hcz
        go_enter Tryz.func21, Tryz.ntmps21
        go_wp2_with fail
        with_reducible refine HWi.out.mono ?_
        rintro e w1 ⟨rfl, rfl⟩
        go_wp2_with fail
        with_reducible refine HSe.out.mono ?_
        rintro e wT ⟨rfl, ρT, hT, hfr, -⟩
        have d3 := hT.c3
        have HE := Hid_mk (HEnd.out wT ρT hT hfr)
        clear hT hfr
        go_wp2_with fail
        with_reducible refine HE.out.mono ?_
        rintro e w1 ⟨c, rfl, ⟨v1, q1⟩, ⟨v2, q2⟩, ⟨v4, q4⟩, qw, hfin⟩
        have HFin := Hid_mk hfin
        have qw1 := qw 1
        have qw2 := qw 2
        have qw4 := qw 4
        clear hfin
        go_wp2
        go_ret
        exact ⟨rfl, HFin.out⟩
      · have hcz := hcz hck
        go_enter Tryz.func21, Tryz.ntmps21
        go_wp2_with fail
        with_reducible refine HWi.out.mono ?_
        rintro e w1 ⟨rfl, rfl⟩
        go_wp2_with fail
        with_reducible refine HSe.out.mono ?_
        rintro e wT ⟨rfl, ρT, hT, hfr, -⟩
        have d3 := hT.c3
        have HE := Hid_mk (HEnd.out wT ρT hT hfr)
        clear hT hfr
        go_wp2_with fail
        with_reducible refine HE.out.mono ?_
        rintro e w1 ⟨c, rfl, ⟨v1, q1⟩, ⟨v2, q2⟩, ⟨v4, q4⟩, qw, hfin⟩
        have HFin := Hid_mk hfin
        have qw1 := qw 1
        have qw2 := qw 2
        have qw4 := qw 4
        clear hfin
        go_wp2
        go_ret
        exact ⟨rfl, HFin.out⟩
  · have hlt : k < d.cs.length := by omega
    have hltp : k < ps.length := by omega
    have hcj : ps[k].1 = d.cs[k] := by
      have hcs := h.cs
      have : (ps.map (·.1))[k]'(by simpa using hltp) = d.cs[k] := by simp only [hcs]
      simpa using this
    have hF : crashF d keep torn = tearF (all d.syn (d.cs.take k)) ps[k].1 torn := by
      unfold crashF; rw [hk, List.getElem?_eq_getElem hlt, hcj]
    rw [hF] at HEnd
    have hby := h.byts ps[k] (List.getElem_mem hltp)
    have hnames := hok.names d.cs[k] (List.getElem_mem hlt)
    have hplain := hok.plain d.cs[k] (List.getElem_mem hlt)
    have hrise := rising_all hok.rising (d.cs.take k)
    have hlen1 := len_all hok.rising (d.cs.take k)
    have hused1 := used_all hok.rising (d.cs.take k)
    have htl : (d.cs.take k).length ≤ d.cs.length := by rw [List.length_take]; omega
    have hbj : bytesOf (d.cs.take k) + d.cs[k].bytes.length ≤ bytesOf d.cs := by
      have := bytesOf_take d.cs (k + 1)
      rw [List.take_succ_eq_append_getElem hlt, bytesOf_append] at this
      simpa [bytesOf] using this
    have hsm := hok.small
    have hol := get_len hrise (nm d.cs[k].name)
    rw [← hcj] at hnames hplain hbj hol
    have hpc : ∀ w' ρ', Left w' base ρ' vp ps → ∀ g cap, vp = .slice (some ⟨g, 0, none⟩) ps.length cap → _ := fun w' ρ' hL g cap e => pend_cells (by have := hL.1; rw [e] at this; exact this) k hltp
    have hbl : ∀ w' ρ', Left w' base ρ' vp ps → Bs w' ps[k].2 ps[k].1.bytes := fun w' ρ' hL => (hL.2.2 ps[k] (List.getElem_mem hltp)).1
    generalize hq : ps[k] = q at *
    obtain ⟨c, vb⟩ := q
    simp only at hby hnames hplain hbj hol hF HEnd hbl
    obtain ⟨ab, lb, cb, rfl⟩ : ∃ ab lb cb, vb = .slice ab lb cb := by obtain ⟨a, c, e, -⟩ := hby.1; exact ⟨_, _, _, e⟩
    have htear : ∀ wT ρT, DkAt wT base p ρT { d with syn := all d.syn (d.cs.take k), cs := [] } d.now s n (.slice none 0 0) [] → Fr ρ w ρT wT → Left wT base ρT vp ps →
        Calls Tryz.prog 56 #[.map (some s), chg c (.slice ab lb cb), .int .i64 torn] wT.drew fun e w2 => e = .returned (.tuple #[]) ∧ w2.cell? ⟨p, 3, none⟩ = some (.map (some s)) ∧
          Calls Tryz.prog 57 #[.map (some s)] w2 fun e w1 => ∃ c, e = .returned (.map (some c)) ∧ (∃ v, w1.cell? ⟨p, 1, none⟩ = some v) ∧ (∃ v, w1.cell? ⟨p, 2, none⟩ = some v) ∧ (∃ v, w1.cell? ⟨p, 4, none⟩ = some v) ∧ (∀ o, w1.frozen? ⟨p, o, none⟩ = false) ∧
            ∃ ρ2, Dk (((w1.setCell ⟨p, 4, none⟩ (.map (some c))).setCell ⟨p, 1, none⟩ (.int .i64 (-1))).setCell ⟨p, 2, none⟩ (.bool false)) base p ρ2 (crashD d keep torn) ∧ Fr ρ w ρ2 (((w1.setCell ⟨p, 4, none⟩ (.map (some c))).setCell ⟨p, 1, none⟩ (.int .i64 (-1))).setCell ⟨p, 2, none⟩ (.bool false)) := by
      intro wT ρT hT hfr hL
      have k0 : Kp No wT wT.drew := (Kp.refl No wT).drew
      refine (tear_any wT.drew base s (sOf ρT) (all d.syn (d.cs.take k)) c (.slice ab lb cb) torn (hT.no k0).syn (fun e => Classical.byContradiction fun e2 => e (hplain e2)) (bs_no (hbl wT ρT hL) k0) hnames.1 hnames.2 (by unfold maxLen; omega) (by unfold old; omega)).mono ?_
      intro e w2 hpost
      obtain ⟨ρ2, h2, hfr2, -⟩ := hT.after_syn k0 hpost
      exact ⟨hpost.1, h2.c3, HEnd.out w2 ρ2 h2 (hfr.trans hfr2)⟩
    rcases owns_any h.pend with ⟨rfl, hz⟩ | ⟨g, cap, rfl, hg1, hg2, hg3, hg4⟩
    · omega
    unfold maxLen at hg4
    have hpc2 : ∀ w' ρ', Left w' base ρ' (.slice (some ⟨g, 0, none⟩) ps.length cap) ps → _ := fun w' ρ' hL => hpc w' ρ' hL g cap rfl
    rw [hpl.symm] at HWi
    unfold chg at htear
    have HTear := Hid_mk htear
    have HPc := Hid_mk hpc2
    obtain ⟨N, hN⟩ : ∃ N, ps.length = N := ⟨_, rfl⟩
    rw [hN] at c5 HSe HWi HTear HPc hltp hg3
    have hkN : (k : Int) ≤ (N : Int) := by omega
    have hkc : (k : Int) ≤ (cap : Int) := by omega
    have hNc : (N : Int) ≤ (cap : Int) := by omega
    have hk0 : (0 : Int) ≤ (k : Int) := by omega
    have hgt : (0 : Int) < ((N - k : Nat) : Int) := by omega
    have hcz : ¬ cap - k = 0 := by omega
    clear h hok hwi hse hend hF hu hl hri hk1 hk2 hkn hpl hk hfew hMs hN hby hnames hplain hrise hlen1 hused1 htl hbj hsm hol hpc hpc2 hbl htear hcj hlt
    go_enter Tryz.func21, Tryz.ntmps21
    go_wp2_with fail
    with_reducible refine HWi.out.mono ?_
    rintro e w1 ⟨rfl, rfl⟩
    go_wp2_with fail
    with_reducible refine HSe.out.mono ?_
    rintro e wT ⟨rfl, ρT, hT, hfr, hL⟩
    have d3 := hT.c3
    obtain ⟨p0, p1, p2, p3, p4⟩ := HPc.out wT ρT hL
    clear hq
    have HT := Hid_mk (HTear.out wT ρT hT hfr hL)
    clear hT hfr hL
    go_wp2
    go_region_with (go_at_call 56; (with_reducible refine HT.out.mono ?_); rintro e w2 ⟨rfl, g3, hnext⟩; have HE := Hid_mk hnext; clear hnext)
    all_goals
      go_wp2_with fail
      with_reducible refine HE.out.mono ?_
      rintro e w1 ⟨c, rfl, ⟨v1, q1⟩, ⟨v2, q2⟩, ⟨v4, q4⟩, qw, hfin⟩
      have HFin := Hid_mk hfin
      have qw1 := qw 1
      have qw2 := qw 2
      have qw4 := qw 4
      clear hfin
      go_wp2
      go_ret
      exact ⟨rfl, HFin.out⟩

end Go.Proofs.YtmehneicdklfeaaGreat.dsk

namespace Go.Proofs.YtmehneicdklfeaaGreat.dsk
open Go.RowKit Go.Maps Go.Proofs.YtmehneicdklfeaaGreat.sum Go.Proofs.YtmehneicdklfeaaGreat.kept Go.Proofs.YtmehneicdklfeaaGreat.app Go.Proofs.YtmehneicdklfeaaGreat.writer Go.Proofs.YtmehneicdklfeaaGreat.clone Go.Proofs.YtmehneicdklfeaaGreat.unseal Go.Proofs.YtmehneicdklfeaaGreat.fs Go.Proofs.YtmehneicdklfeaaGreat.fsMem Go.Proofs.YtmehneicdklfeaaGreat.fsDo Go.Proofs.YtmehneicdklfeaaGreat.fsUsed Go.Proofs.YtmehneicdklfeaaGreat.turned
set_option linter.unusedVariables false

theorem crash_ok {M : Nat} {d : DSt} (h : DOk M d) (hM : M ≤ 1000000) (keep torn : Int) : DOk M (crashD d keep torn) := by
  obtain ⟨h1, h2, h3⟩ := crash_bounds h hM keep torn
  refine ⟨h3, ?_, ?_, trivial, (fun c hc => by cases hc), (fun c hc => by cases hc), h.room0, h.room1, ?_, ?_, (fun c hc => by cases hc)⟩
  · show (crashF d keep torn).length + 0 ≤ _; omega
  · show used (crashF d keep torn) + 0 ≤ _; omega
  · show (-1 : Int) ≤ -1; omega
  · show (-1 : Int) ≤ _; omega

end Go.Proofs.YtmehneicdklfeaaGreat.dsk

namespace Go.Proofs.YtmehneicdklfeaaGreat.dsk
open Go.RowKit Go.Maps Go.Proofs.YtmehneicdklfeaaGreat.sum Go.Proofs.YtmehneicdklfeaaGreat.kept Go.Proofs.YtmehneicdklfeaaGreat.app Go.Proofs.YtmehneicdklfeaaGreat.writer Go.Proofs.YtmehneicdklfeaaGreat.clone Go.Proofs.YtmehneicdklfeaaGreat.unseal Go.Proofs.YtmehneicdklfeaaGreat.fs Go.Proofs.YtmehneicdklfeaaGreat.fsMem Go.Proofs.YtmehneicdklfeaaGreat.fsDo Go.Proofs.YtmehneicdklfeaaGreat.fsUsed Go.Proofs.YtmehneicdklfeaaGreat.turned
set_option linter.unusedVariables false

set_option maxRecDepth 100000 in
set_option maxHeartbeats 1000000 in
theorem fuse_any (w : World) (base p : Nat) (ρ : Nat → Role) (d : DSt) (n : Int) (h : Dk w base p ρ d) : Calls Tryz.prog 20 #[.pointer (some ⟨p, 0, none⟩), .int .i64 n] w fun e w' => e = .returned (.tuple #[]) ∧ Dk w' base p ρ { d with fuse := max n (-1) } ∧ Fr ρ w ρ w' := by
  obtain ⟨s, nn, vp, ps, h⟩ := h
  have c1 := h.c1
  have hw := h.warm
  have hw1 := h.warm 1
  obtain ⟨m, hm⟩ : ∃ m, max n (-1) = m := ⟨_, rfl⟩
  rw [hm]
  have hfr : Fr ρ w ρ (w.setCell ⟨p, 1, none⟩ (.int .i64 m)) := Fr.of_p (kp_p _ _ _ _) h.rp
  have HF := Hid_mk (show Dk _ base p ρ { d with fuse := m } from ⟨s, nn, vp, ps, h.set_fuse m⟩)
  clear h
  by_cases hn : -1 ≤ n
  · obtain rfl : n = m := by omega
    clear hm
    go_enter Tryz.func20, Tryz.ntmps20
    go_wp2
    go_end0
    exact ⟨rfl, HF.out, hfr⟩
  · obtain rfl : m = -1 := by omega
    clear hm
    go_enter Tryz.func20, Tryz.ntmps20
    go_wp2
    go_end0
    exact ⟨rfl, HF.out, hfr⟩

set_option maxRecDepth 100000 in
theorem down_any (w : World) (base p : Nat) (ρ : Nat → Role) (d : DSt) (h : Dk w base p ρ d) : Calls Tryz.prog 42 #[.pointer (some ⟨p, 0, none⟩)] w fun e w' => e = .returned (.bool d.down) ∧ w = w' := by
  obtain ⟨s, nn, vp, ps, h⟩ := h
  have c2 := h.c2
  clear h
  go_enter Tryz.func42, Tryz.ntmps42
  go_wp2
  go_ret
  exact ⟨rfl, rfl⟩

set_option maxRecDepth 100000 in
theorem pending_any (w : World) (base p : Nat) (ρ : Nat → Role) (d : DSt) (h : Dk w base p ρ d) : Calls Tryz.prog 41 #[.pointer (some ⟨p, 0, none⟩)] w fun e w' => e = .returned (.int .i64 (d.cs.length : Int)) ∧ w = w' := by
  obtain ⟨s, nn, vp, ps, h⟩ := h
  have c5 := h.c5
  have hpl : ps.length = d.cs.length := by rw [← h.cs, List.length_map]
  obtain ⟨av, cv, rfl⟩ : ∃ a c, vp = .slice a ps.length c := by
    rcases owns_any h.pend with ⟨rfl, hz⟩ | ⟨g, cap, rfl, -⟩
    · exact ⟨none, 0, by rw [hz]⟩
    · exact ⟨_, _, rfl⟩
  rw [hpl] at c5
  clear h hpl
  go_enter Tryz.func41, Tryz.ntmps41
  go_wp2
  go_ret
  exact ⟨rfl, rfl⟩

end Go.Proofs.YtmehneicdklfeaaGreat.dsk
