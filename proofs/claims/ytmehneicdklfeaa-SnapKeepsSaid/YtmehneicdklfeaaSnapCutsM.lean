/- A snapshot saved on a disk with a fuse, and opened behind a crash: in plain words. The reference's Sum. The reference's Seal. The reference's Unseal: it answers as the project's. The reference's Frame. A scope in which the run jumps back to one label, walked once; a slice's end. frame.List. The reference's List. The reference's snapshot: what it asks of its disk, and Save. The reference's SaveSnap. The reference's OpenSnap. Save and Open of both disks, side by side: out of the project's contracts. -/
import Derived.Test.YtmehneicdklfeaaSealM
import Derived.Test.YtmehneicdklfeaaFsDoM
import Derived.Test.YtmehneicdklfeaaR2RelM
import Derived.ScopeJumps
import Derived.WalkMore

namespace Go.Proofs.Ytmehneicdklfeaa.snp
open Go.RowKit Go.Proofs.Ytmehneicdklfeaa.sum Go.Proofs.Ytmehneicdklfeaa.kept Go.Proofs.Ytmehneicdklfeaa.fs Go.Proofs.Ytmehneicdklfeaa.dsk Go.Proofs.Ytmehneicdklfeaa.r2 Go.Proofs.Ytmehneicdklfeaa.pair Go.Proofs.Ytmehneicdklfeaa.frm
set_option linter.unusedVariables false

/-- the files: a snapshot or none -/
def baseS : Option (List UInt8) → Files
  | none => []
  | some x => [(nm snapN, framed x)]
/-- a disk that holds just these, with a fuse -/
def stS (L : Option (List UInt8)) (f : Int) : DSt := ⟨8388608, f, false, baseS L, []⟩

theorem bef_ns : bef (nm newN) (nm snapN) = false := by decide
theorem bef_sn : bef (nm snapN) (nm newN) = true := by decide
theorem ne_sn : (nm snapN == nm newN) = false := by decide
theorem ne_ns : (nm newN == nm snapN) = false := by decide

theorem put_new (L : Option (List UInt8)) (y : List UInt8) : put (baseS L) (nm newN) y = baseS L ++ [(nm newN, y)] := by
  cases L with
  | none => rfl
  | some x => simp [baseS, put, fs.drop, ins, bef_ns, bef_sn, ne_sn]
theorem get_new (L : Option (List UInt8)) : fs.get (baseS L) (nm newN) = none := by
  cases L with
  | none => rfl
  | some x => simp [baseS, fs.get, ne_sn]
theorem get_two (L : Option (List UInt8)) (y : List UInt8) : fs.get (baseS L ++ [(nm newN, y)]) (nm newN) = some y := by
  cases L with
  | none => simp [baseS, fs.get]
  | some x => simp [baseS, fs.get, ne_sn]
theorem get_snap (L : Option (List UInt8)) : fs.get (baseS L) (nm snapN) = L.map framed := by
  cases L with
  | none => rfl
  | some x => simp [baseS, fs.get]
theorem drop_two (L : Option (List UInt8)) (y : List UInt8) : fs.drop (baseS L ++ [(nm newN, y)]) (nm newN) = baseS L := by
  cases L with
  | none => simp [baseS, fs.drop]
  | some x => simp [baseS, fs.drop, ne_sn]
theorem put_snap (L : Option (List UInt8)) (y : List UInt8) : put (baseS L) (nm snapN) (framed y) = baseS (some y) := by
  cases L with
  | none => rfl
  | some x => simp [baseS, put, fs.drop, ins]

/-- Save's five moments, with a fuse f or none -/
theorem here_not (L : Option (List UInt8)) (f : Int) : hereB (stS L f) newN = false := by
  show (!false && (fs.get (baseS L) (nm newN)).isSome) = false
  rw [get_new]; rfl
theorem clr_not (L : Option (List UInt8)) (f : Int) : clrD (stS L f) = (0, stS L f) := by
  unfold clrD; rw [here_not]; rfl
theorem used_base (L : Option (List UInt8)) (h : ∀ x, L = some x → x.length ≤ 300) : used (baseS L) ≤ 310 := by
  cases L with
  | none => exact Nat.zero_le _
  | some x =>
    have := h x rfl
    have e := framed_len (bs := x) (by omega)
    simp [baseS, used, e]; omega
theorem len_base (L : Option (List UInt8)) : (baseS L).length ≤ 1 := by cases L <;> simp [baseS]

/-- the fuse behind a call that counts -/
def nxt (f : Int) : Int := if 0 < f then f - 1 else f

theorem stop_cut (S : Files) (cs : List Change) : stopB ⟨8388608, 0, false, S, cs⟩ = true ∧ stopD ⟨8388608, 0, false, S, cs⟩ = ⟨8388608, 0, true, S, cs⟩ := ⟨rfl, if_pos (.inr rfl)⟩
theorem stop_on (S : Files) (cs : List Change) {f : Int} (hf : f ≠ 0) : stopB ⟨8388608, f, false, S, cs⟩ = false ∧ stopD ⟨8388608, f, false, S, cs⟩ = ⟨8388608, nxt f, false, S, cs⟩ := by
  refine ⟨by simp [stopB, hf], ?_⟩
  unfold stopD nxt
  rw [if_neg (by simp [hf])]
  by_cases h : 0 < f
  · rw [if_pos h, if_pos h]
  · rw [if_neg h, if_neg h]
theorem app_cut (S : Files) (cs : List Change) (n : ByteArray) (bs : List UInt8) : appR ⟨8388608, 0, false, S, cs⟩ n bs = (3, ⟨8388608, 0, true, S, cs⟩) := by
  obtain ⟨h1, h2⟩ := stop_cut S cs
  unfold appR; rw [if_pos h1, h2]
theorem sy_cut (S : Files) (cs : List Change) : syR ⟨8388608, 0, false, S, cs⟩ = (3, ⟨8388608, 0, true, S, cs⟩) := by
  obtain ⟨h1, h2⟩ := stop_cut S cs
  unfold syR; rw [if_pos h1, h2]
theorem re_cut (S : Files) (cs : List Change) (n to : ByteArray) : reR ⟨8388608, 0, false, S, cs⟩ n to = (3, ⟨8388608, 0, true, S, cs⟩) := by
  obtain ⟨h1, h2⟩ := stop_cut S cs
  unfold reR; rw [if_pos h1, h2]
theorem sy_on (S : Files) (cs : List Change) {f : Int} (hf : f ≠ 0) : syR ⟨8388608, f, false, S, cs⟩ = (0, ⟨8388608, nxt f, false, all S cs, []⟩) := by
  obtain ⟨h1, h2⟩ := stop_on S cs hf
  unfold syR; rw [h1, if_neg (by simp), h2]; rfl
theorem re_on (S : Files) {f : Int} (hf : f ≠ 0) (hg : (fs.get S (nm newN)).isSome = true) : reR ⟨8388608, f, false, S, []⟩ newN snapN = (0, ⟨8388608, nxt f, false, S, [renC newN snapN]⟩) := by
  obtain ⟨h1, h2⟩ := stop_on S [] hf
  unfold reR; rw [h1, if_neg (by simp), if_neg (by decide)]
  rw [if_neg (show ¬ (fs.get (⟨8388608, f, false, S, []⟩ : DSt).now (nm newN)).isSome = false from by
    show ¬ (fs.get S (nm newN)).isSome = false
    rw [hg]; simp)]
  unfold pushD; rw [h2]; rfl
theorem rm_on (S : Files) {f : Int} (hf : f ≠ 0) (hg : (fs.get S (nm newN)).isSome = true) : rmR ⟨8388608, f, false, S, []⟩ newN = (0, ⟨8388608, nxt f, false, S, [remC newN]⟩) := by
  obtain ⟨h1, h2⟩ := stop_on S [] hf
  unfold rmR; rw [h1, if_neg (by simp)]
  rw [if_neg (show ¬ (fs.get (⟨8388608, f, false, S, []⟩ : DSt).now (nm newN)).isSome = false from by
    show ¬ (fs.get S (nm newN)).isSome = false
    rw [hg]; simp)]
  unfold pushD; rw [h2]; rfl

theorem app_on (L : Option (List UInt8)) (hL : ∀ x, L = some x → x.length ≤ 300) (bs : List UInt8) (hb : bs.length ≤ 300) (f : Int) (hf : f ≠ 0) : appR (stS L f) newN (framed bs) = (0, ⟨8388608, nxt f, false, baseS L, [appC newN (framed bs)]⟩) := by
  have hs : stopB (stS L f) = false := by simp [stopB, stS, hf]
  have hsd : stopD (stS L f) = stS L (nxt f) := by
    unfold stopD nxt
    rw [if_neg (by simp [stS, hf])]
    by_cases h : 0 < f
    · rw [if_pos h, if_pos (show 0 < (stS L f).fuse from h)]; rfl
    · rw [if_neg h, if_neg (show ¬ 0 < (stS L f).fuse from h)]
  have hu := used_base L hL
  have hl := len_base L
  have e := framed_len (bs := bs) (by omega)
  unfold appR
  rw [hs, if_neg (by simp), if_neg (by decide)]
  rw [if_neg (show ¬ (stS L f).room < (used (stS L f).now : Int) + ((framed bs).length : Int) by
    show ¬ (8388608 : Int) < (used (baseS L) : Int) + ((framed bs).length : Int); omega)]
  rw [if_neg (show ¬ ((fs.get (stS L f).now (nm newN)).isSome = false ∧ 64 ≤ (stS L f).now.length) from fun h => by
    have h2 : 64 ≤ (baseS L).length := h.2
    omega)]
  unfold pushD
  rw [hsd]
  rfl
theorem now_app (L : Option (List UInt8)) (y : List UInt8) : all (baseS L) [appC newN y] = baseS L ++ [(nm newN, y)] := by
  show put (baseS L) (nm newN) (old (baseS L) (nm newN) ++ y) = _
  unfold old
  rw [get_new]
  exact put_new L y
theorem now_ren (L : Option (List UInt8)) (bs : List UInt8) : all (baseS L ++ [(nm newN, framed bs)]) [renC newN snapN] = baseS (some bs) := by
  show put (fs.drop (baseS L ++ [(nm newN, framed bs)]) (nm newN)) (nm snapN) (old (baseS L ++ [(nm newN, framed bs)]) (nm newN)) = _
  rw [drop_two]
  unfold old
  rw [get_two]
  exact put_snap L bs

/-- what waits when Save was cut -/
inductive CutS (L : Option (List UInt8)) (bs : List UInt8) : Files → List Change → Prop
  | none : CutS L bs (baseS L) []
  | app : CutS L bs (baseS L) [appC newN (framed bs)]
  | two : CutS L bs (baseS L ++ [(nm newN, framed bs)]) []
  | ren : CutS L bs (baseS L ++ [(nm newN, framed bs)]) [renC newN snapN]

/-- Save went well, or was cut -/
theorem sav_or (L : Option (List UInt8)) (hL : ∀ x, L = some x → x.length ≤ 300) (bs : List UInt8) (hb : bs.length ≤ 300) (f : Int) :
    (∃ f', savD (stS L f) bs = (0, stS (some bs) f')) ∨ ∃ S cs, savD (stS L f) bs = (3, ⟨8388608, 0, true, S, cs⟩) ∧ CutS L bs S cs := by
  unfold savD
  rw [if_neg (by omega), clr_not, seqD_ok _ rfl]
  by_cases f0 : f = 0
  · subst f0
    refine .inr ⟨_, _, ?_, .none⟩
    show seqD (appR ⟨8388608, 0, false, baseS L, []⟩ newN (framed bs)) _ = _
    rw [app_cut, seqD_no _ (show (3 : Int) ≠ 0 by decide)]
  · simp only
    rw [app_on L hL bs hb f f0, seqD_ok _ rfl]
    by_cases f1 : nxt f = 0
    · rw [f1]
      refine .inr ⟨_, _, ?_, .app⟩
      simp only
      rw [sy_cut, seqD_no _ (show (3 : Int) ≠ 0 by decide)]
    · simp only
      rw [sy_on _ _ f1, seqD_ok _ rfl, now_app]
      simp only
      have hg : (fs.get (baseS L ++ [(nm newN, framed bs)]) (nm newN)).isSome = true := by rw [get_two]; rfl
      by_cases f2 : nxt (nxt f) = 0
      · rw [f2]
        refine .inr ⟨_, _, ?_, .two⟩
        rw [re_cut, seqD_no _ (show (3 : Int) ≠ 0 by decide)]
      · rw [re_on _ f2 hg, seqD_ok _ rfl]
        simp only
        by_cases f3 : nxt (nxt (nxt f)) = 0
        · rw [f3]
          refine .inr ⟨_, _, ?_, .ren⟩
          rw [sy_cut]
        · rw [sy_on _ _ f3, now_ren]
          exact .inl ⟨_, rfl⟩

/-- what a crash leaves of it -/
theorem crash_leaves {L : Option (List UInt8)} {bs : List UInt8} {S : Files} {cs : List Change} (h : CutS L bs S cs) (d : DSt) (hS : d.syn = S) (hc : d.cs = cs) (a b : Int) :
    crashF d a b = baseS L ∨ (∃ y, crashF d a b = baseS L ++ [(nm newN, y)]) ∨ crashF d a b = baseS (some bs) := by
  have hk := (crashK_le d a).1
  rw [hc] at hk
  unfold crashF
  rw [hc, hS]
  obtain ⟨k, hkk⟩ : ∃ k, crashK d a = k := ⟨_, rfl⟩
  rw [hkk] at hk ⊢
  cases h with
  | none =>
    obtain rfl : k = 0 := by simpa using hk
    exact .inl rfl
  | two =>
    obtain rfl : k = 0 := by simpa using hk
    exact .inr (.inl ⟨_, rfl⟩)
  | app =>
    have hk2 : k = 0 ∨ k = 1 := by simp only [List.length_cons, List.length_nil] at hk; omega
    rcases hk2 with rfl | rfl
    · show tearF (baseS L) (appC newN (framed bs)) b = _ ∨ (∃ y, tearF (baseS L) (appC newN (framed bs)) b = _) ∨ tearF (baseS L) (appC newN (framed bs)) b = _
      unfold tearF
      split
      · exact .inl rfl
      · refine .inr (.inl ⟨(framed bs).take (tornN (appC newN (framed bs)) b), ?_⟩)
        exact now_app L ((framed bs).take (tornN (appC newN (framed bs)) b))
    · exact .inr (.inl ⟨_, now_app L _⟩)
  | ren =>
    have hk2 : k = 0 ∨ k = 1 := by simp only [List.length_cons, List.length_nil] at hk; omega
    rcases hk2 with rfl | rfl
    · refine .inr (.inl ⟨framed bs, ?_⟩)
      show tearF (baseS L ++ [(nm newN, framed bs)]) (renC newN snapN) b = _
      unfold tearF
      rw [if_pos (show tornN (renC newN snapN) b = 0 from rfl)]
    · exact .inr (.inr (now_ren L bs))

theorem opn_base (L : Option (List UInt8)) (f : Int) : opnD (stS L f) = (0, stS L f) := by
  unfold opnD; rw [here_not]; rfl
theorem opn_two (L : Option (List UInt8)) (y : List UInt8) : opnD ⟨8388608, -1, false, baseS L ++ [(nm newN, y)], []⟩ = (0, stS L (-1)) := by
  have hg : (fs.get (baseS L ++ [(nm newN, y)]) (nm newN)).isSome = true := by rw [get_two]; rfl
  have hh : hereB ⟨8388608, -1, false, baseS L ++ [(nm newN, y)], []⟩ newN = true := by
    show (!false && (fs.get (baseS L ++ [(nm newN, y)]) (nm newN)).isSome) = true
    rw [hg]; rfl
  unfold opnD
  rw [hh, if_pos rfl, rm_on _ (by decide) hg, seqD_ok _ rfl]
  simp only
  rw [sy_on _ _ (by decide)]
  show ((0 : Int), (⟨8388608, _, false, fs.drop (baseS L ++ [(nm newN, y)]) (nm newN), []⟩ : DSt)) = _
  rw [drop_two]
  rfl

/-- Opened behind a crash: the elder snapshot, or the one that was cut, whole -/
theorem cut_opn {L : Option (List UInt8)} {bs : List UInt8} {S : Files} {cs : List Change} (h : CutS L bs S cs) (a b : Int) :
    ∃ L', (L' = L ∨ L' = some bs) ∧ opnD (crashD ⟨8388608, 0, true, S, cs⟩ a b) = (0, stS L' (-1)) := by
  unfold crashD
  rcases crash_leaves h ⟨8388608, 0, true, S, cs⟩ rfl rfl a b with e | ⟨y, e⟩ | e
  · rw [e]; exact ⟨L, .inl rfl, opn_base L (-1)⟩
  · rw [e]; exact ⟨L, .inl rfl, opn_two L y⟩
  · rw [e]; exact ⟨some bs, .inr rfl, opn_base (some bs) (-1)⟩
/-- behind a Save that went well -/
theorem ok_opn (L : Option (List UInt8)) (f a b : Int) : opnD (crashD (stS L f) a b) = (0, stS L (-1)) := by
  have hk := (crashK_le (stS L f) a).1
  have hk0 : crashK (stS L f) a = 0 := by
    have : (stS L f).cs.length = 0 := rfl
    omega
  have e : crashF (stS L f) a b = baseS L := by unfold crashF; rw [hk0]; rfl
  unfold crashD
  rw [e]
  exact opn_base L (-1)
/-- what is told of it -/
theorem got_st (L : Option (List UInt8)) (hL : ∀ x, L = some x → x.length ≤ 300) (f : Int) : gotD (stS L f) = L := by
  have e : readD (stS L f) snapN = (L.map framed).getD [] := by
    show (if false = true then [] else (fs.get (baseS L) (nm snapN)).getD []) = _
    rw [get_snap]; rfl
  unfold gotD
  rw [e]
  cases L with
  | none =>
    show gotL [] = none
    unfold gotL
    rw [listP_none (show firstP [] = none by unfold firstP; rw [if_neg (by simp)])]
    rfl
  | some x =>
    show gotL (framed x) = some x
    have hx := hL x rfl
    have h1 := listP_framed (bs := x) (by omega) []
    rw [List.append_nil, listP_none (show firstP [] = none by unfold firstP; rw [if_neg (by simp)])] at h1
    unfold gotL
    rw [h1, framed_len (by omega)]
    simp

/-- with no fuse -/
theorem sav_free (L : Option (List UInt8)) (hL : ∀ x, L = some x → x.length ≤ 300) (bs : List UInt8) (hb : bs.length ≤ 300) : savD (stS L (-1)) bs = (0, stS (some bs) (-1)) := by
  have hg : (fs.get (baseS L ++ [(nm newN, framed bs)]) (nm newN)).isSome = true := by rw [get_two]; rfl
  have hn : nxt (-1) = -1 := rfl
  unfold savD
  rw [if_neg (by omega), clr_not, seqD_ok _ rfl]
  simp only
  rw [app_on L hL bs hb (-1) (by decide), seqD_ok _ rfl, hn]
  simp only
  rw [sy_on _ _ (by decide), seqD_ok _ rfl, now_app, hn]
  simp only
  rw [re_on _ (by decide) hg, seqD_ok _ rfl, hn]
  simp only
  rw [sy_on _ _ (by decide), now_ren, hn]
  rfl
/-- with a fuse of two: cut at Rename -/
theorem sav_two (L : Option (List UInt8)) (hL : ∀ x, L = some x → x.length ≤ 300) (bs : List UInt8) (hb : bs.length ≤ 300) : savD (stS L 2) bs = (3, ⟨8388608, 0, true, baseS L ++ [(nm newN, framed bs)], []⟩) := by
  have hn : nxt 2 = 1 := rfl
  have hn1 : nxt 1 = 0 := rfl
  unfold savD
  rw [if_neg (by omega), clr_not, seqD_ok _ rfl]
  simp only
  rw [app_on L hL bs hb 2 (by decide), seqD_ok _ rfl, hn]
  simp only
  rw [sy_on _ _ (by decide), seqD_ok _ rfl, now_app, hn1]
  simp only
  rw [re_cut, seqD_no _ (show (3 : Int) ≠ 0 by decide)]
theorem two_opn (L : Option (List UInt8)) (y : List UInt8) (a b : Int) : opnD (crashD ⟨8388608, 0, true, baseS L ++ [(nm newN, y)], []⟩ a b) = (0, stS L (-1)) := by
  have hk := (crashK_le ⟨8388608, 0, true, baseS L ++ [(nm newN, y)], []⟩ a).1
  have hk0 : crashK ⟨8388608, 0, true, baseS L ++ [(nm newN, y)], []⟩ a = 0 := by
    simpa using hk
  have e : crashF ⟨8388608, 0, true, baseS L ++ [(nm newN, y)], []⟩ a b = baseS L ++ [(nm newN, y)] := by unfold crashF; rw [hk0]; rfl
  unfold crashD
  rw [e]
  exact opn_two L y
/-- what Open answers, where it leaves such a disk -/
theorem opnA_st {d : DSt} {L : Option (List UInt8)} {f : Int} (hL : ∀ x, L = some x → x.length ≤ 300) (h : opnD d = (0, stS L f)) : opnA d = (0, L) := by
  unfold opnA
  rw [h, if_pos rfl, got_st L hL]

end Go.Proofs.Ytmehneicdklfeaa.snp

namespace Go.Proofs.Ytmehneicdklfeaa.ref
open Go.RowKit Go.Proofs.Ytmehneicdklfeaa.sum Go.Proofs.Ytmehneicdklfeaa.kept Go.Proofs.Ytmehneicdklfeaa.writer Go.Proofs.Ytmehneicdklfeaa.clone Go.Proofs.Ytmehneicdklfeaa.known Go.Proofs.Ytmehneicdklfeaa.unseal
set_option linter.unusedVariables false

theorem wrapU (z : Int) (h : 0 ≤ z) (h2 : z < 18446744073709551616) : IntKind.u64.wrap z = z := by
  simp only [IntKind.wrap, IntKind.bits, IntKind.signed]
  simp
  omega

def SumRel (bs : List UInt8) (w : World) (i re im : Value) (wr : World) : Prop :=
  ∃ k, k ≤ bs.length ∧ i = .int .i64 ((k : Nat) : Int) ∧ re = .int .u64 ((pl.sum (bs.take k)).1 : Int) ∧ im = .int .u64 ((pl.sum (bs.take k)).2 : Int) ∧ wr = w

section
variable {p q x : Nat} (hp : p < 16777199) (hq : q < 16777199) (hx : x < 256)
include hp in
theorem s1 : IntKind.u64.wrap (257 * (p : Int)) = 257 * (p : Int) := wrapU _ (by omega) (by omega)
include hp hx in
theorem s2 : IntKind.u64.wrap (257 * (p : Int) + (x : Int)) = 257 * (p : Int) + (x : Int) := wrapU _ (by omega) (by omega)
include hp hx in
theorem s3 : IntKind.u64.wrap (257 * (p : Int) + (x : Int) + 1) = 257 * (p : Int) + (x : Int) + 1 := wrapU _ (by omega) (by omega)
include hq in
theorem s4 : IntKind.u64.wrap (16777199 - (q : Int)) = 16777199 - (q : Int) := wrapU _ (by omega) (by omega)
include hq in
theorem s5 : IntKind.u64.wrap (3 * (16777199 - (q : Int))) = 3 * (16777199 - (q : Int)) := wrapU _ (by omega) (by omega)
include hp hq hx in
theorem s6 : IntKind.u64.wrap (257 * (p : Int) + (x : Int) + 1 + 3 * (16777199 - (q : Int))) = 257 * (p : Int) + (x : Int) + 1 + 3 * (16777199 - (q : Int)) := wrapU _ (by omega) (by omega)
include hp in
theorem s7 : IntKind.u64.wrap (3 * (p : Int)) = 3 * (p : Int) := wrapU _ (by omega) (by omega)
include hp hq in
theorem s8 : IntKind.u64.wrap (257 * (q : Int) + 3 * (p : Int)) = 257 * (q : Int) + 3 * (p : Int) := wrapU _ (by omega) (by omega)
include hq in
theorem s_re : (257 * (p : Int) + (x : Int) + 1 + 3 * (16777199 - (q : Int))) % 16777199 = (((257 * p + x + 1 + 3 * (16777199 - q)) % 16777199 : Nat) : Int) := by omega
theorem s_im : (257 * (q : Int) + 3 * (p : Int)) % 16777199 = (((257 * q + 3 * p) % 16777199 : Nat) : Int) := by omega
end

theorem SumRel.next {bs : List UInt8} {w : World} {k p q x : Nat} {X : UInt8} (hlt : k < bs.length) (hs : pl.sum (bs.take k) = (p, q)) (hX : bs.getD k 0 = X) (hx : X.toNat = x) (hq : q < 16777199) :
    SumRel bs w (.int .i64 ((k + 1 : Nat) : Int)) (.int .u64 ((257 * (p : Int) + (x : Int) + 1 + 3 * (16777199 - (q : Int))) % 16777199)) (.int .u64 ((257 * (q : Int) + 3 * (p : Int)) % 16777199)) w := by
  have hfin := pl.sum_snoc (bs.take k) (bs.getD k 0)
  rw [← take_snoc hlt, hs, hX] at hfin
  refine ⟨k + 1, hlt, rfl, ?_, ?_, rfl⟩
  · rw [hfin, s_re hq]; unfold pl.step pl.P; rw [hx]
  · rw [hfin, s_im]; rfl

end Go.Proofs.Ytmehneicdklfeaa.ref

namespace Go.Proofs.Ytmehneicdklfeaa.ref
open Go.RowKit Go.Proofs.Ytmehneicdklfeaa.sum Go.Proofs.Ytmehneicdklfeaa.kept Go.Proofs.Ytmehneicdklfeaa.app Go.Proofs.Ytmehneicdklfeaa.writer Go.Proofs.Ytmehneicdklfeaa.clone Go.Proofs.Ytmehneicdklfeaa.known Go.Proofs.Ytmehneicdklfeaa.seal Go.Proofs.Ytmehneicdklfeaa.unseal
set_option linter.unusedVariables false

/-- a literal of six bytes, as laid by the call -/
theorem bs_tail (w : World) (s : Nat × Nat) : Bs (w.alloc (.cells #[.int .u8 ((s.1 : Int) % 256), .int .u8 ((s.1 : Int) / 256 % 256), .int .u8 ((s.1 : Int) / 65536 % 256), .int .u8 ((s.2 : Int) % 256), .int .u8 ((s.2 : Int) / 256 % 256), .int .u8 ((s.2 : Int) / 65536 % 256)] 5)) (.slice (some ⟨w.heap.size, 0, none⟩) 6 6) (tail s) := by
  obtain ⟨m, n⟩ := s
  simp only
  have e1 : (m : Int) % 256 = ((m % 256 : Nat) : Int) := by omega
  have e2 : (m : Int) / 256 % 256 = ((m / 256 % 256 : Nat) : Int) := by omega
  have e3 : (m : Int) / 65536 % 256 = ((m / 65536 % 256 : Nat) : Int) := by omega
  have e4 : (n : Int) % 256 = ((n % 256 : Nat) : Int) := by omega
  have e5 : (n : Int) / 256 % 256 = ((n / 256 % 256 : Nat) : Int) := by omega
  have e6 : (n : Int) / 65536 % 256 = ((n / 65536 % 256 : Nat) : Int) := by omega
  rw [e1, e2, e3, e4, e5, e6]
  refine ⟨_, 6, rfl, Nat.le_refl _, by decide, fun _ => ⟨_, _, rfl, fun k hk => ?_⟩⟩
  rw [tail_len] at hk
  rw [show tail (m, n) = [m.toUInt8, (m / 256).toUInt8, (m / 65536).toUInt8, n.toUInt8, (n / 256).toUInt8, (n / 65536).toUInt8] from rfl]
  match k, hk with
  | 0, _ => simp [B, u8_toNat]
  | 1, _ => simp [B, u8_toNat]
  | 2, _ => simp [B, u8_toNat]
  | 3, _ => simp [B, u8_toNat]
  | 4, _ => simp [B, u8_toNat]
  | 5, _ => simp [B, u8_toNat]

end Go.Proofs.Ytmehneicdklfeaa.ref

namespace Go.Proofs.Ytmehneicdklfeaa.ref
open Go.RowKit Go.Proofs.Ytmehneicdklfeaa.sum Go.Proofs.Ytmehneicdklfeaa.kept Go.Proofs.Ytmehneicdklfeaa.app Go.Proofs.Ytmehneicdklfeaa.writer Go.Proofs.Ytmehneicdklfeaa.clone Go.Proofs.Ytmehneicdklfeaa.known Go.Proofs.Ytmehneicdklfeaa.seal Go.Proofs.Ytmehneicdklfeaa.unseal Go.Proofs.Ytmehneicdklfeaa.turnedPlain
set_option linter.unusedVariables false

/-- what is sealed is just what the project unseals -/
theorem seal_iff (bs : List UInt8) (h : 6 ≤ bs.length) : sealed (bs.take (bs.length - 6)) = bs ↔ pl.sum (bs.take (bs.length - 6)) = said (bs.drop (bs.length - 6)) := by
  have hl : (bs.take (bs.length - 6)).length = bs.length - 6 := by rw [List.length_take]; omega
  constructor
  · intro e
    have := (sealed_ok (bs.take (bs.length - 6))).2.2
    rw [e, hl] at this
    exact this.symm
  · intro e
    have h2 := said_tail _ (pl.sum_lt (bs.take (bs.length - 6)))
    rw [e] at h2
    have h3 := said_inj (tail_len _) (by rw [List.length_drop]; omega) h2
    unfold sealed
    rw [e, h3, List.take_append_drop]

theorem str_ne {xs ys : List UInt8} (h : xs ≠ ys) : (⟨xs.toArray⟩ : ByteArray) ≠ ⟨ys.toArray⟩ := by
  intro e
  injection e with e
  exact h (by simpa using e)

end Go.Proofs.Ytmehneicdklfeaa.ref

namespace Go.Proofs.Ytmehneicdklfeaa.ref
open Go.RowKit Go.Proofs.Ytmehneicdklfeaa.sum Go.Proofs.Ytmehneicdklfeaa.kept Go.Proofs.Ytmehneicdklfeaa.app Go.Proofs.Ytmehneicdklfeaa.writer Go.Proofs.Ytmehneicdklfeaa.clone Go.Proofs.Ytmehneicdklfeaa.known Go.Proofs.Ytmehneicdklfeaa.seal Go.Proofs.Ytmehneicdklfeaa.unseal Go.Proofs.Ytmehneicdklfeaa.turnedPlain Go.Proofs.Ytmehneicdklfeaa.frm
set_option linter.unusedVariables false

/-- four bytes, as laid by the call: a row of one's own -/
theorem own_len4 (w : World) (n : Nat) (hn : n ≤ 4194304) : (w.alloc (.cells #[.int .u8 ((n : Int) % 256), .int .u8 ((n : Int) / 256 % 256), .int .u8 ((n : Int) / 65536), .int .u8 ((n : Int) / 16777216)] 5)).ownsRow w.heap.size 5 1 (.slice (some ⟨w.heap.size, 0, none⟩) 4 4) (len4 n).length ((len4 n).map B) := by
  have e1 : (n : Int) % 256 = ((n % 256 : Nat) : Int) := by omega
  have e2 : (n : Int) / 256 % 256 = ((n / 256 % 256 : Nat) : Int) := by omega
  have e3 : (n : Int) / 65536 = ((n / 65536 % 256 : Nat) : Int) := by omega
  have e4 : (n : Int) / 16777216 = ((n / 16777216 % 256 : Nat) : Int) := by omega
  rw [e1, e2, e3, e4]
  refine ⟨rfl, .inr ⟨w.heap.size, 4, _, rfl, Nat.le_refl _, heap_alloc_new w _, Nat.le_refl _, by decide, rfl, ?_⟩⟩
  simp [len4, B, u8_toNat]

end Go.Proofs.Ytmehneicdklfeaa.ref

namespace Go.Proofs.Ytmehneicdklfeaa.lst
open Go.RowKit Go.Proofs.Ytmehneicdklfeaa.sum Go.Proofs.Ytmehneicdklfeaa.kept Go.Proofs.Ytmehneicdklfeaa.app Go.Proofs.Ytmehneicdklfeaa.writer Go.Proofs.Ytmehneicdklfeaa.clone Go.Proofs.Ytmehneicdklfeaa.unseal
set_option linter.unusedVariables false

theorem scope_once {P : Program} {a : Act} {w : World} {Q : Exit → Act → World → Prop} {c X : Code} (l : Nat) (J : Act → World → Prop) (μ : Act → World → Nat) (hf : findLabel c l = some (.seq .skip X))
    (pass : ∀ a w, J a w → X.wp P (Exit.jump l (fun a' w' => J a' w' ∧ μ a' w' < μ a w) Q) a w)
    (first : (∀ a w, J a w → X.wp P (Exit.jump l J Q) a w) → c.wp P (Exit.jump l J Q) a w) : (Code.scope c).wp P Q a w := by
  refine wp_scope_jumps l J μ hf (first fun a w hJ => Code.wp_mono ?_ (pass a w hJ)) fun a w hJ => wp_seq (wp_skip (pass a w hJ))
  intro e a w h
  cases e <;> first | exact h | exact ⟨h.1, h.2.1⟩

/-- what stands from a place on -/
theorem slice_from {w : World} {a : Option Addr} {len cap : Nat} {bs : List UInt8} (h : Bs w (.slice a len cap) bs) (k : Nat) (hk : k ≤ bs.length) :
    ∃ b' c', (∀ W, (Instr.sliceAt 26 (.slice a len cap) (some (.int .i64 (k : Int))) none none).run Try.prog W = .ok (.slice b' (bs.length - k) c') W) ∧ ∀ w', Kp No w w' → Bs w' (.slice b' (bs.length - k) c') (bs.drop k) := by
  have H := h
  obtain ⟨a, c, e, h1, h2, h3⟩ := h
  simp only [Value.slice.injEq] at e
  obtain ⟨rfl, rfl, rfl⟩ := e
  refine ⟨if cap = k then a else a.map (·.add k), cap - k, fun W => ?_, fun w' hk' => ?_⟩
  · obtain ⟨i0, hi, hz0, hz1, hz2⟩ := info_parts info5
    have hu : Try.prog.underlying 26 = some (.slice (Try.prog.elem 26)) := by kernel_rfl
    have he : Try.prog.elem 26 = 5 := by kernel_rfl
    rw [run_sliceAt_slice W _ _ _ _ _ hu, run_slice_l W _ _ _ _ hu .i64 (k : Int) (by omega) (by omega)]
    simp [he, sizeOf, typeInfo, hi, hz1, sliced, Result.andThen]
  · refine bs_no ?_ hk'
    by_cases hne : bs = []
    · subst hne
      simp only [List.length_nil, Nat.le_zero] at hk
      subst hk
      refine ⟨_, _, rfl, ?_, by omega, fun h => absurd rfl h⟩
      simp
    · obtain ⟨b, o, rfl, hc⟩ := h3 hne
      have := bs_drop H k hk (if cap = k then some ⟨b, o, none⟩ else some ⟨b, o + k, none⟩) (fun h => if_neg (fun e => h e.symm))
      rw [Option.map_some, addr_add]
      exact this

end Go.Proofs.Ytmehneicdklfeaa.lst

namespace Go.Proofs.Ytmehneicdklfeaa.frm
open Go.RowKit Go.Proofs.Ytmehneicdklfeaa.sum Go.Proofs.Ytmehneicdklfeaa.kept Go.Proofs.Ytmehneicdklfeaa.app Go.Proofs.Ytmehneicdklfeaa.writer Go.Proofs.Ytmehneicdklfeaa.clone Go.Proofs.Ytmehneicdklfeaa.known Go.Proofs.Ytmehneicdklfeaa.fl Go.Proofs.Ytmehneicdklfeaa.seal Go.Proofs.Ytmehneicdklfeaa.unseal Go.Proofs.Ytmehneicdklfeaa.lst
set_option linter.unusedVariables false

def ListRel (w : World) (bs : List UInt8) (v i : Value) (wr : World) : Prop :=
  ∃ (k : Nat) (qs : Els), i = .int .i64 k ∧ Lo wr w.heap.size v qs ∧ At bs qs.texts k ∧ qs.length ≤ k ∧ Kp No w wr

def ListJ (w : World) (bs : List UInt8) (p : Value) (a : Act) (wr : World) : Prop :=
  ∃ v i u6 u7 u8 u9 u10 u11 u12 u13 u14 u15 u16 u17 u18 u19 u20 u21 u22 u23 u24 u25 u26 u27, a = { tmps := #[p, undef, .slice none 0 0, .int .i64 0, v, i, u6, u7, u8, u9, u10, u11, u12, u13, u14, u15, u16, u17, u18, u19, u20, u21, u22, u23, u24, u25, u26, u27], defers := [] } ∧ ListRel w bs v i wr

/-- what a call leaves that makes a list, and a place -/
def ListPost (w : World) (r : List (List UInt8) × Nat) (e : Ending) (w' : World) : Prop := ∃ v' qs, e = .returned (.tuple #[v', .int .i64 (r.2 : Int)]) ∧ Lo w' w.heap.size v' qs ∧ qs.texts = r.1 ∧ Kp No w w'

set_option maxRecDepth 100000 in
set_option maxHeartbeats 4000000 in
theorem list_any (w : World) (v : Value) (bs : List UInt8) (h : Bs w v bs) (hbl : bs.length ≤ 1000000000000) :
    Calls Try.prog 16 #[v] w (ListPost w (listP bs)) := by
  have H := Hid_mk h
  obtain ⟨a, cap, rfl, hlc, hm, -⟩ := h
  unfold maxLen at hm
  go_enter Try.func16, Try.ntmps16
  go_wp2
  refine scope_once 0 (ListJ w bs (.slice a bs.length cap)) (fun a' _ => bs.length - (intOf (a'.tmps.getD 5 undef)).toNat) rfl ?pass ?first
  case first =>
    intro pass
    have HP := Hid_mk pass
    clear pass
    go_wp2
    apply wp_label
    rename_i hK0
    exact hK0 _ _ (HP.out _ _ ⟨_, _, _, _, _, _, _, _, _, _, _, _, _, _, _, _, _, _, _, _, _, _, _, _, rfl, 0, [], rfl, Lo.nil _ _, At.start _, Nat.le_refl _, Kp.refl _ _⟩)
  case pass =>
    rintro a' wr ⟨v, i, u6, u7, u8, u9, u10, u11, u12, u13, u14, u15, u16, u17, u18, u19, u20, u21, u22, u23, u24, u25, u26, u27, rfl, k, qs, rfl, hlo, hat, hql, hkp⟩
    have hkb := hat.1
    obtain ⟨b', c', hsl, hbd⟩ := slice_from H.out k hkb
    have hf := first_any wr _ _ (hbd wr hkp)
    have HF := Hid_mk hf
    have HLo := Hid_mk hlo
    have HAt := Hid_mk hat
    have HKp := Hid_mk hkp
    have hws := hkp.size
    have hki : (k : Int) ≤ (bs.length : Int) := by omega
    clear hf hbd hlo hat hkp
    cases hfp : firstP (bs.drop k) with
    | none =>
      have HFp := Hid_mk hfp
      rw [hfp] at HF
      clear hfp
      go_wp2_with fail
      with_reducible refine HF.out.mono ?_
      rintro e w1 ⟨hk1, rfl⟩
      have hfin : ListPost w (listP bs) (.returned (.tuple #[v, .int .i64 k])) w1 := ⟨v, qs, by rw [HAt.out.done HFp.out], HLo.out.no hk1, by rw [HAt.out.done HFp.out], HKp.out.trans' hk1⟩
      have HFin := Hid_mk hfin
      clear hk1 hfin hsl
      go_wp2
      simp only [Exit.jump]
      go_ret2
      exact HFin.out
    | some xs =>
      obtain ⟨hxl, -, hxm⟩ := firstP_len hfp
      rw [List.length_drop] at hxl
      have hnext := HAt.out.next hfp
      have HN := Hid_mk hnext
      rw [hfp] at HF
      clear hfp hnext
      go_wp2_with fail
      with_reducible refine HF.out.mono ?_
      rintro e w1 ⟨hk1, v1, rfl, ho1⟩
      have HL1 := Hid_mk (HLo.out.no hk1)
      have HK1 := Hid_mk (HKp.out.trans' hk1)
      have hz1 := hk1.size
      have ho1' := owns_base ho1 hws
      obtain ⟨a9, c9, rfl⟩ : ∃ a c, v1 = .slice a xs.length c := by
        rcases owns_any ho1 with ⟨rfl, hz⟩ | ⟨g, cap, rfl, -⟩
        · exact ⟨none, 0, by rw [hz]⟩
        · exact ⟨_, _, rfl⟩
      have HO1 := Hid_mk ho1'
      clear hk1 ho1 ho1' hsl
      go_wp2_with (at_builtin; (refine wpList_push _ rfl _ _ rfl w.heap.size _ qs rfl (HL1.out.no ((Kp.refl No w1).alloc _)) ?b1 _ xs (owns_kept HO1.out ((Kp.refl No w1).alloc _) (fun _ _ => id)) w1.heap.size 1 rfl (heap_alloc_new w1 _) ?b2 ?_))
      case b1 => simp; omega
      case b2 => omega
      rintro v2 w2 ⟨hp1, hp2, hp3, g9, cc9, rfl⟩
      have hrel : ListRel w bs (.slice (some ⟨g9, 0, none⟩) (qs.length + 1) cc9) (.int .i64 ((k + (xs.length + 10) : Nat) : Int)) w2 := ⟨_, _, rfl, hp1, by simpa [Els.texts] using HN.out, by simp; omega, (HK1.out.alloc _).trans hp2 fun i hi e => by have := (HLo.out.row.lt i e.symm).1; omega⟩
      have HRel := Hid_mk hrel
      clear hrel hp1 hp2 hp3
      go_wp2
      go_step3
      have e9 : (k : Int) + (4 + (xs.length : Int) + 6) = ((k + (xs.length + 10) : Nat) : Int) := by omega
      rw [e9]
      refine ⟨rfl, ⟨_, _, _, _, _, _, _, _, _, _, _, _, _, _, _, _, _, _, _, _, _, _, _, _, rfl, HRel.out⟩, ?_⟩
      simp [intOf]
      omega

end Go.Proofs.Ytmehneicdklfeaa.frm

namespace Go.Proofs.Ytmehneicdklfeaa.ref
open Go.RowKit Go.Proofs.Ytmehneicdklfeaa.sum Go.Proofs.Ytmehneicdklfeaa.kept Go.Proofs.Ytmehneicdklfeaa.app Go.Proofs.Ytmehneicdklfeaa.writer Go.Proofs.Ytmehneicdklfeaa.clone Go.Proofs.Ytmehneicdklfeaa.known Go.Proofs.Ytmehneicdklfeaa.seal Go.Proofs.Ytmehneicdklfeaa.unseal Go.Proofs.Ytmehneicdklfeaa.turnedPlain Go.Proofs.Ytmehneicdklfeaa.frm Go.Proofs.Ytmehneicdklfeaa.lst
set_option linter.unusedVariables false

theorem slice_mid {w : World} {b o len cap : Nat} {bs : List UInt8} (h : Bs w (.slice (some ⟨b, o, none⟩) len cap) bs) (k n : Nat) (hk : k + 10 + n ≤ bs.length) (X Y : Int) (hX : X = ((k + 4 : Nat) : Int)) (hY : Y = ((k + 10 + n : Nat) : Int)) :
    (∀ W, (Instr.sliceAt 26 (.slice (some ⟨b, o, none⟩) len cap) (some (.int .i64 X)) (some (.int .i64 Y)) none).run Try.prog W = .ok (.slice (some ⟨b, o + (k + 4), none⟩) (n + 6) (cap - (k + 4))) W) ∧
      ∀ w', Kp No w w' → Bs w' (.slice (some ⟨b, o + (k + 4), none⟩) (n + 6) (cap - (k + 4))) (((bs.drop k).drop 4).take (n + 6)) := by
  have H := h
  obtain ⟨a, c, e, h1, h2, h3⟩ := h
  simp only [Value.slice.injEq] at e
  obtain ⟨rfl, rfl, rfl⟩ := e
  subst hX hY
  refine ⟨fun W => ?_, fun w' hk' => ?_⟩
  · obtain ⟨i0, hi, hz0, hz1, hz2⟩ := info_parts info5
    have hu : Try.prog.underlying 26 = some (.slice (Try.prog.elem 26)) := by kernel_rfl
    have he : Try.prog.elem 26 = 5 := by kernel_rfl
    rw [run_sliceAt_slice W _ _ _ _ _ hu, run_slice_lh W _ _ _ _ hu .i64 .i64 ((k + 4 : Nat) : Int) ((k + 10 + n : Nat) : Int) (by omega) (by omega) (by omega)]
    have e1 : k + 10 + n - (k + 4) = n + 6 := by omega
    simp only [Int.toNat_natCast, sliced, e1, if_neg (show ¬ cap = k + 4 by omega)]
    simp [he, sizeOf, typeInfo, hi, hz1, Result.andThen, addr_add]
  · refine bs_no ?_ hk'
    have h5 := bs_drop H (k + 4) (by omega) (some ⟨b, o + (k + 4), none⟩) (fun _ => rfl)
    have h6 := bs_take h5 (n + 6) (by omega)
    rw [List.drop_drop]
    exact h6

/-- what the reference asks of what stands at a place is what package frame asks -/
theorem firstP_ref {t : List UInt8} (h4 : 4 ≤ t.length) (h1 : num4 t ≤ 4194304) (h2 : num4 t + 10 ≤ t.length) :
    firstP t = if sealed (((t.drop 4).take (num4 t + 6)).take (num4 t)) = (t.drop 4).take (num4 t + 6) then some (((t.drop 4).take (num4 t + 6)).take (num4 t)) else none := by
  have hl : ((t.drop 4).take (num4 t + 6)).length = num4 t + 6 := by rw [List.length_take, List.length_drop]; omega
  have hs := seal_iff ((t.drop 4).take (num4 t + 6)) (by omega)
  rw [hl, show num4 t + 6 - 6 = num4 t by omega] at hs
  unfold firstP
  by_cases hc : pl.sum (((t.drop 4).take (num4 t + 6)).take (num4 t)) = said (((t.drop 4).take (num4 t + 6)).drop (num4 t))
  · rw [if_pos ⟨h4, h1, h2, hc⟩, if_pos (hs.2 hc)]
  · rw [if_neg (fun h => hc h.2.2.2), if_neg (fun h => hc (hs.1 h))]

end Go.Proofs.Ytmehneicdklfeaa.ref

namespace Go.Proofs.Ytmehneicdklfeaa.snp
open Go.RowKit Go.Maps Go.Proofs.Ytmehneicdklfeaa.sum Go.Proofs.Ytmehneicdklfeaa.kept Go.Proofs.Ytmehneicdklfeaa.app Go.Proofs.Ytmehneicdklfeaa.writer Go.Proofs.Ytmehneicdklfeaa.clone Go.Proofs.Ytmehneicdklfeaa.fs Go.Proofs.Ytmehneicdklfeaa.fsDo Go.Proofs.Ytmehneicdklfeaa.unseal Go.Proofs.Ytmehneicdklfeaa.dsk Go.Proofs.Ytmehneicdklfeaa.r2 Go.Proofs.Ytmehneicdklfeaa.pair Go.Proofs.Ytmehneicdklfeaa.frm
set_option linter.unusedVariables false

def Hi (w : World) (ρ : Nat → Role) : Prop := ∀ k, w.heap.size ≤ k → ρ k = .other

section
variable {w w' : World} {ρ : Nat → Role} {r M : Nat} {d : DSt}
theorem Hi.up {S : Nat → Prop} (h : Hi w ρ) (hk : Kp S w w') : Hi w' ρ := fun k hk2 => h k (Nat.le_trans hk.size hk2)

end

theorem framed_small (bs : List UInt8) : (framed bs).length ≤ 4194314 := by
  by_cases h : bs.length ≤ 4194304
  · rw [framed_len h]; omega
  · rw [framed_none h]; exact Nat.zero_le _

end Go.Proofs.Ytmehneicdklfeaa.snp

namespace Go.Proofs.Ytmehneicdklfeaa.snp
open Go.RowKit Go.Maps Go.Proofs.Ytmehneicdklfeaa.sum Go.Proofs.Ytmehneicdklfeaa.kept Go.Proofs.Ytmehneicdklfeaa.app Go.Proofs.Ytmehneicdklfeaa.writer Go.Proofs.Ytmehneicdklfeaa.clone Go.Proofs.Ytmehneicdklfeaa.fs Go.Proofs.Ytmehneicdklfeaa.fsDo Go.Proofs.Ytmehneicdklfeaa.unseal Go.Proofs.Ytmehneicdklfeaa.dsk Go.Proofs.Ytmehneicdklfeaa.r2 Go.Proofs.Ytmehneicdklfeaa.pair Go.Proofs.Ytmehneicdklfeaa.frm
set_option linter.unusedVariables false

/-- Save behind the test of snap.new -/
def savT (d : DSt) (bs : List UInt8) : Int × DSt := seqD (appR d newN (framed bs)) fun d => seqD (syR d) fun d => seqD (reR d newN snapN) fun d => syR d
theorem savD_eq {d : DSt} {bs : List UInt8} (h : bs.length ≤ 4194304) : savD d bs = seqD (clrD d) fun d => savT d bs := if_neg (by omega)
theorem savD_no {d : DSt} {bs : List UInt8} (h : 4194304 < bs.length) : savD d bs = (12, d) := if_pos h

end Go.Proofs.Ytmehneicdklfeaa.snp

namespace Go.Proofs.Ytmehneicdklfeaa.snp
open Go.RowKit Go.Maps Go.Proofs.Ytmehneicdklfeaa.sum Go.Proofs.Ytmehneicdklfeaa.kept Go.Proofs.Ytmehneicdklfeaa.app Go.Proofs.Ytmehneicdklfeaa.writer Go.Proofs.Ytmehneicdklfeaa.clone Go.Proofs.Ytmehneicdklfeaa.fs Go.Proofs.Ytmehneicdklfeaa.fsDo Go.Proofs.Ytmehneicdklfeaa.unseal Go.Proofs.Ytmehneicdklfeaa.dsk Go.Proofs.Ytmehneicdklfeaa.r2 Go.Proofs.Ytmehneicdklfeaa.pair Go.Proofs.Ytmehneicdklfeaa.frm Go.Proofs.Ytmehneicdklfeaa.lst
set_option linter.unusedVariables false

theorem nil_bs (w : World) : Bs w (.slice none 0 0) [] := ⟨none, 0, rfl, Nat.le_refl _, Nat.zero_le _, fun h => absurd rfl h⟩

end Go.Proofs.Ytmehneicdklfeaa.snp

namespace Go.Proofs.Ytmehneicdklfeaa.snp
open Go.RowKit Go.Maps Go.Proofs.Ytmehneicdklfeaa.sum Go.Proofs.Ytmehneicdklfeaa.kept Go.Proofs.Ytmehneicdklfeaa.app Go.Proofs.Ytmehneicdklfeaa.writer Go.Proofs.Ytmehneicdklfeaa.clone Go.Proofs.Ytmehneicdklfeaa.fs Go.Proofs.Ytmehneicdklfeaa.fsDo Go.Proofs.Ytmehneicdklfeaa.unseal Go.Proofs.Ytmehneicdklfeaa.dsk Go.Proofs.Ytmehneicdklfeaa.r2 Go.Proofs.Ytmehneicdklfeaa.pair Go.Proofs.Ytmehneicdklfeaa.frm
set_option linter.unusedVariables false

/-- what is asked of the project's Save -/
def SaveC : Prop := ∀ (w : World) (base p M : Nat) (ρ : Nat → Role) (d : DSt) (v : Value) (bs : List UInt8), Dk w base p ρ d → OkN M d → M ≤ 900 → Bs w v bs → (bs ≠ [] → ∀ x o m c, v = .slice (some ⟨x, o, none⟩) m c → ρ x = .other) → bs.length ≤ 140737488355328 →
  Calls Try.prog 8 #[.pointer (some ⟨p, 0, none⟩), v] w (StPost base p ρ (savD d bs).2 w (.int .i64 (savD d bs).1))
/-- and of its Open -/
def OpenC : Prop := ∀ (w : World) (base p M : Nat) (ρ : Nat → Role) (d : DSt), Dk w base p ρ d → OkN M d → M ≤ 900 →
  Calls Try.prog 6 #[.pointer (some ⟨p, 0, none⟩)] w fun e w' => ∃ v ρ', e = .returned (.tuple #[v, .bool (opnA d).2.isSome, .int .i64 (opnA d).1]) ∧ Dk w' base p ρ' (opnD d).2 ∧ Fr ρ w ρ' w' ∧ Bs w' v ((opnA d).2.getD []) ∧ ((opnA d).2.getD [] ≠ [] → ∀ x o m c, v = .slice (some ⟨x, o, none⟩) m c → w.heap.size ≤ x ∧ ρ' x = .other)

section
variable {w w1 : World} {base p r M : Nat} {ρ : Nat → Role} {d : DSt}

end

end Go.Proofs.Ytmehneicdklfeaa.snp
