/- What each call on a disk answers and leaves, in plain words; the reference's Disk as a disk's state. The reference's Disk: Append, Truncate, Rename, Remove, Sync. The reference's Disk: Append. The reference's Disk: Crash. The reference's Disk: Crash, its walk. Both disks side by side: each call of the project's answers as the plain words say, and stays in bounds. A slice of slices of bytes: as it is read, as it is owned; one more of them. -/
import Derived.Test.YtmehneicdklfeaaDiskMoreM
import Derived.Test.YtmehneicdklfeaaBaseM
import Derived.Deep.AppendLies
import Derived.Deep.RegionHeld3

namespace Go.Proofs.Ytmehneicdklfeaa.r2
open Go.RowKit Go.Maps Go.Proofs.Ytmehneicdklfeaa.sum Go.Proofs.Ytmehneicdklfeaa.kept Go.Proofs.Ytmehneicdklfeaa.app Go.Proofs.Ytmehneicdklfeaa.writer Go.Proofs.Ytmehneicdklfeaa.clone Go.Proofs.Ytmehneicdklfeaa.fs Go.Proofs.Ytmehneicdklfeaa.fsDo Go.Proofs.Ytmehneicdklfeaa.unseal Go.Proofs.Ytmehneicdklfeaa.dsk
set_option linter.unusedVariables false

def pushD (d : DSt) (c : Change) : DSt := { stopD d with cs := d.cs ++ [c] }
def appR (d : DSt) (n : ByteArray) (bs : List UInt8) : Int × DSt :=
  if stopB d = true then (3, stopD d) else if nameB n = false then (1, stopD d) else if d.room < (used d.now : Int) + (bs.length : Int) then (2, stopD d)
  else if (get d.now (nm n)).isSome = false ∧ 64 ≤ d.now.length then (2, stopD d) else (0, pushD d (appC n bs))
def trR (d : DSt) (n : ByteArray) (size : Int) : Int × DSt :=
  if stopB d = true then (3, stopD d) else if (get d.now (nm n)).isSome = false then (4, stopD d) else if size < 0 then (1, stopD d) else if ((old d.now (nm n)).length : Int) < size then (1, stopD d) else (0, pushD d (truncC n size.toNat))
def reR (d : DSt) (n to : ByteArray) : Int × DSt :=
  if stopB d = true then (3, stopD d) else if nameB to = false then (1, stopD d) else if (get d.now (nm n)).isSome = false then (4, stopD d) else (0, pushD d (renC n to))
def rmR (d : DSt) (n : ByteArray) : Int × DSt :=
  if stopB d = true then (3, stopD d) else if (get d.now (nm n)).isSome = false then (4, stopD d) else (0, pushD d (remC n))
def syR (d : DSt) : Int × DSt := if stopB d = true then (3, stopD d) else (0, { stopD d with syn := d.now, cs := [] })

/-- the reference's state stands for the disk's -/
structure RD (d : DSt) (x : RSt) (ls ln : List Fv) (ps : List (Change × Value)) : Prop where
  room : d.room = x.space
  down : d.down = x.down
  fuse : d.fuse = if x.fused = true then x.fuse else -1
  fuse0 : 0 ≤ x.fuse
  fuse1 : x.fuse ≤ 9223372036854775807
  syn : files ls = d.syn
  now : files ln = d.now
  cs : ps.map (·.1) = d.cs

section
variable {d : DSt} {x : RSt} {ls ln : List Fv} {ps : List (Change × Value)}
theorem RD.stops (h : RD d x ls ln ps) : cntB x = stopB d := by
  have h1 := h.down
  have h2 := h.fuse
  unfold cntB stopB
  rw [h1, h2]
  cases x.fused <;> simp
theorem RD.counted (h : RD d x ls ln ps) : RD (stopD d) (cntX x) ls ln ps := by
  have hs := h.stops
  have h0 := h.fuse0
  have h1 := h.fuse1
  obtain ⟨e1, e2, e3⟩ := stop_same d
  have hn : (stopD d).now = d.now := by unfold DSt.now; rw [e2, e3]
  obtain ⟨r1, r2, r3, -, -, r4, r5, r6⟩ := h
  have hx : (cntX x).space = x.space ∧ (cntX x).fused = x.fused := by unfold cntX; split <;> (try split) <;> exact ⟨rfl, rfl⟩
  have hd : (stopD d).down = (cntX x).down ∧ (stopD d).fuse = (if x.fused = true then (cntX x).fuse else -1) ∧ 0 ≤ (cntX x).fuse ∧ (cntX x).fuse ≤ 9223372036854775807 := by
    unfold stopD cntX
    rw [hs]
    unfold stopB
    rw [r2, r3]
    cases hd : x.down <;> cases hf : x.fused <;> simp [hd, hf, r2, r3]
    · omega
    · by_cases hz : x.fuse = 0
      · simp [hz]
      · have : 0 < x.fuse := by omega
        simp [hz, this]
        omega
    · omega
    · omega
  exact ⟨by rw [e1, hx.1]; exact r1, hd.1, by rw [hx.2]; exact hd.2.1, hd.2.2.1, hd.2.2.2, by rw [e2]; exact r4, by rw [hn]; exact r5, by rw [e3]; exact r6⟩
theorem RD.up (h : RD d x ls ln ps) (hs : stopB d = false) : (cntX x).down = false := by
  rw [← h.counted.down]
  unfold stopB at hs
  unfold stopD
  simp at hs
  rw [if_neg (by simp [hs])]
  split
  · exact hs.1
  · exact hs.1
theorem RD.pushed (h : RD d x ls ln ps) {ln' : List Fv} {c : Change} {v : Value} (he : files ln' = doit (files ln) c) : RD (pushD d c) (cntX x) ls ln' (ps ++ [(c, v)]) := by
  have k := h.counted
  obtain ⟨e1, e2, e3⟩ := stop_same d
  refine ⟨k.room, k.down, k.fuse, k.fuse0, k.fuse1, k.syn, ?_, ?_⟩
  · rw [he, h.now]
    have := all_snoc d.syn d.cs c
    unfold DSt.now pushD
    simp only [e2]
    exact this.symm
  · unfold pushD
    simp [h.cs]
end

theorem files_len (l : List Fv) : (files l).length = l.length := List.length_map _

/-- what the bounds give -/
theorem RD.bounds {d : DSt} {x : RSt} {ls ln : List Fv} {ps : List (Change × Value)} {M : Nat} (h : RD d x ls ln ps) (hok : DOk M d) (hM : M ≤ 1000) :
    Rising (files ln) ∧ ln.length ≤ 1000 ∧ used (files ln) ≤ 10000000000 ∧ ps.length ≤ 1000 ∧ Rising (files ls) ∧ ls.length ≤ 1000 ∧ used (files ls) ≤ 10000000000 ∧ bytesOf d.cs ≤ 10000000000 := by
  have q1 := hok.few
  have q2 := hok.small
  have q3 := len_all hok.rising d.cs
  have q4 := used_all hok.rising d.cs
  have q5 := rising_all hok.rising d.cs
  have l1 := files_len ln
  have l2 := files_len ls
  have l3 : ps.length = d.cs.length := by rw [← h.cs, List.length_map]
  rw [h.now] at l1 ⊢
  rw [h.syn] at l2 ⊢
  unfold DSt.now at *
  exact ⟨q5, by omega, by omega, by omega, hok.rising, by omega, by omega, by omega⟩

end Go.Proofs.Ytmehneicdklfeaa.r2

namespace Go.Proofs.Ytmehneicdklfeaa.r2
open Go.RowKit Go.Maps Go.Proofs.Ytmehneicdklfeaa.sum Go.Proofs.Ytmehneicdklfeaa.kept Go.Proofs.Ytmehneicdklfeaa.app Go.Proofs.Ytmehneicdklfeaa.writer Go.Proofs.Ytmehneicdklfeaa.clone Go.Proofs.Ytmehneicdklfeaa.fs Go.Proofs.Ytmehneicdklfeaa.fsDo Go.Proofs.Ytmehneicdklfeaa.unseal Go.Proofs.Ytmehneicdklfeaa.dsk
set_option linter.unusedVariables false

theorem wrapU (z : Int) (h : -9223372036854775808 ≤ z ∧ z ≤ 9223372036854775807) : IntKind.i64.wrap z = z := IntWalk.i64_in _ (by omega)

section
variable {w : World} {ρ : Nat → Role} {r : Nat} {d : DSt} {x : RSt} {vs vn vw : Value} {ls ln : List Fv} {ps : List (Change × Value)} {M : Nat}

/-- where a name stands, beside what the files tell -/
theorem place_get (hd : RD d x ls ln ps) (n : ByteArray) : (∃ k, ∃ h : k < ln.length, ln[k].1 = n ∧ place ln n = (k : Int) ∧ (get d.now (nm n)).isSome = true) ∨ (place ln n = -1 ∧ (get d.now (nm n)).isSome = false) := by
  rcases place_cases ln n with ⟨k, hk, he, hp⟩ | ⟨hno, hp⟩
  · refine .inl ⟨k, hk, he, hp, ?_⟩
    cases hg : fs.get d.now (nm n) with
    | some _ => rfl
    | none =>
      have := get_none.1 hg (nm ln[k].1, ln[k].2.2) (by rw [← hd.now]; exact List.mem_map.2 ⟨ln[k], List.getElem_mem hk, rfl⟩)
      exact absurd (by rw [he]) this
  · refine .inr ⟨hp, ?_⟩
    rw [← hd.now, get_noplace hno]
    rfl

end

end Go.Proofs.Ytmehneicdklfeaa.r2

namespace Go.Proofs.Ytmehneicdklfeaa.r2
open Go.RowKit Go.Maps Go.Proofs.Ytmehneicdklfeaa.sum Go.Proofs.Ytmehneicdklfeaa.kept Go.Proofs.Ytmehneicdklfeaa.app Go.Proofs.Ytmehneicdklfeaa.writer Go.Proofs.Ytmehneicdklfeaa.clone Go.Proofs.Ytmehneicdklfeaa.fs Go.Proofs.Ytmehneicdklfeaa.fsDo Go.Proofs.Ytmehneicdklfeaa.unseal Go.Proofs.Ytmehneicdklfeaa.dsk
set_option linter.unusedVariables false

end Go.Proofs.Ytmehneicdklfeaa.r2

namespace Go.Proofs.Ytmehneicdklfeaa.r2
open Go.RowKit Go.Maps Go.Proofs.Ytmehneicdklfeaa.sum Go.Proofs.Ytmehneicdklfeaa.kept Go.Proofs.Ytmehneicdklfeaa.app Go.Proofs.Ytmehneicdklfeaa.writer Go.Proofs.Ytmehneicdklfeaa.clone Go.Proofs.Ytmehneicdklfeaa.fs Go.Proofs.Ytmehneicdklfeaa.fsDo Go.Proofs.Ytmehneicdklfeaa.unseal Go.Proofs.Ytmehneicdklfeaa.dsk
set_option linter.unusedVariables false

/-- the world behind the five stores at the end -/
def finW (w : World) (r : Nat) (v : Value) : World := ((((w.setCell ⟨r, 1, none⟩ v).setCell ⟨r, 2, none⟩ v).setCell ⟨r, 3, none⟩ (.slice none 0 0)).setCell ⟨r, 4, none⟩ (.bool false)).setCell ⟨r, 6, none⟩ (.bool false)

/-- the cells at the end, one behind the other -/
structure FinC (w : World) (r : Nat) (v : Value) : Prop where
  g1 : ∃ u, w.cell? ⟨r, 1, none⟩ = some u
  f1 : w.frozen? ⟨r, 1, none⟩ = false
  g2 : ∃ u, (w.setCell ⟨r, 1, none⟩ v).cell? ⟨r, 2, none⟩ = some u
  f2 : (w.setCell ⟨r, 1, none⟩ v).frozen? ⟨r, 2, none⟩ = false
  g3 : ∃ u, ((w.setCell ⟨r, 1, none⟩ v).setCell ⟨r, 2, none⟩ v).cell? ⟨r, 3, none⟩ = some u
  f3 : ((w.setCell ⟨r, 1, none⟩ v).setCell ⟨r, 2, none⟩ v).frozen? ⟨r, 3, none⟩ = false
  g4 : ∃ u, (((w.setCell ⟨r, 1, none⟩ v).setCell ⟨r, 2, none⟩ v).setCell ⟨r, 3, none⟩ (.slice none 0 0)).cell? ⟨r, 4, none⟩ = some u
  f4 : (((w.setCell ⟨r, 1, none⟩ v).setCell ⟨r, 2, none⟩ v).setCell ⟨r, 3, none⟩ (.slice none 0 0)).frozen? ⟨r, 4, none⟩ = false
  g6 : ∃ u, ((((w.setCell ⟨r, 1, none⟩ v).setCell ⟨r, 2, none⟩ v).setCell ⟨r, 3, none⟩ (.slice none 0 0)).setCell ⟨r, 4, none⟩ (.bool false)).cell? ⟨r, 6, none⟩ = some u
  f6 : ((((w.setCell ⟨r, 1, none⟩ v).setCell ⟨r, 2, none⟩ v).setCell ⟨r, 3, none⟩ (.slice none 0 0)).setCell ⟨r, 4, none⟩ (.bool false)).frozen? ⟨r, 6, none⟩ = false
theorem RAt.fin {w : World} {r : Nat} {x : RSt} {vs vn vw : Value} (h : RAt w r x vs vn vw) (v : Value) : FinC w r v := by
  have a1 := h.set_syn v
  have a2 := a1.set_now v
  have a3 := a2.set_wait (.slice none 0 0)
  have a4 := a3.set_fused false
  exact ⟨⟨_, h.c1⟩, h.warm 1, ⟨_, a1.c2⟩, a1.warm 2, ⟨_, a2.c3⟩, a2.warm 3, ⟨_, a3.c4⟩, a3.warm 4, ⟨_, a4.c6⟩, a4.warm 6⟩

/-- what holds of a beginning of what waits -/
theorem take_bounds {d : DSt} {M : Nat} (hok : DOk M d) (hM : M ≤ 1000) (j : Nat) : Rising (all d.syn (d.cs.take j)) ∧ (all d.syn (d.cs.take j)).length ≤ 1000 ∧ used (all d.syn (d.cs.take j)) ≤ 10000000000 := by
  have q1 := hok.few
  have q2 := hok.small
  have q3 := len_all hok.rising (d.cs.take j)
  have q4 := used_all hok.rising (d.cs.take j)
  have q5 := bytesOf_take d.cs j
  have q6 : (d.cs.take j).length ≤ d.cs.length := by rw [List.length_take]; omega
  exact ⟨rising_all hok.rising _, by omega, by omega⟩
theorem bytes_le (cs : List Change) (j : Nat) (h : j < cs.length) : cs[j].bytes.length ≤ bytesOf cs := by
  have h1 := bytesOf_take cs (j + 1)
  rw [List.take_succ_eq_append_getElem h, bytesOf_append] at h1
  have : bytesOf [cs[j]] = cs[j].bytes.length := by simp [bytesOf]
  omega
/-- one of them more -/
theorem take_step {d : DSt} {M : Nat} (hok : DOk M d) (hM : M ≤ 1000) {j : Nat} (hj : j < d.cs.length) : d.cs[j].fits (all d.syn (d.cs.take j)) ∧ all d.syn (d.cs.take (j + 1)) = doit (all d.syn (d.cs.take j)) d.cs[j] ∧ d.cs[j].bytes.length ≤ 10000000000 := by
  refine ⟨fitsAll_at hok.fit j hj, ?_, ?_⟩
  · rw [List.take_succ_eq_append_getElem hj, all_snoc]
  · have := bytes_le d.cs j hj
    have := hok.small
    omega

end Go.Proofs.Ytmehneicdklfeaa.r2

namespace Go.Proofs.Ytmehneicdklfeaa.r2
open Go.RowKit Go.Maps Go.Proofs.Ytmehneicdklfeaa.sum Go.Proofs.Ytmehneicdklfeaa.kept Go.Proofs.Ytmehneicdklfeaa.app Go.Proofs.Ytmehneicdklfeaa.writer Go.Proofs.Ytmehneicdklfeaa.clone Go.Proofs.Ytmehneicdklfeaa.fs Go.Proofs.Ytmehneicdklfeaa.fsDo Go.Proofs.Ytmehneicdklfeaa.unseal Go.Proofs.Ytmehneicdklfeaa.dsk
set_option linter.unusedVariables false

end Go.Proofs.Ytmehneicdklfeaa.r2

namespace Go.Proofs.Ytmehneicdklfeaa.pair
open Go.RowKit Go.Maps Go.Proofs.Ytmehneicdklfeaa.sum Go.Proofs.Ytmehneicdklfeaa.kept Go.Proofs.Ytmehneicdklfeaa.app Go.Proofs.Ytmehneicdklfeaa.writer Go.Proofs.Ytmehneicdklfeaa.clone Go.Proofs.Ytmehneicdklfeaa.fs Go.Proofs.Ytmehneicdklfeaa.fsDo Go.Proofs.Ytmehneicdklfeaa.unseal Go.Proofs.Ytmehneicdklfeaa.dsk Go.Proofs.Ytmehneicdklfeaa.r2
set_option linter.unusedVariables false

section
variable {w : World} {base p M : Nat} {ρ : Nat → Role} {d : DSt}

theorem papp_any (h : Dk w base p ρ d) (hok : DOk M d) (hM : M ≤ 1000000) (n : ByteArray) (vb : Value) (bs : List UInt8) (hn : n.size ≤ maxLen) (hb : Bs w vb bs) (hvo : bs ≠ [] → ∀ x o m c, vb = .slice (some ⟨x, o, none⟩) m c → ρ x = .other) (hbl : bs.length ≤ 140737488355328) :
    Calls Try.prog 18 #[.pointer (some ⟨p, 0, none⟩), .string n, vb] w (StPost base p ρ (appR d n bs).2 w (.int .i64 (appR d n bs).1)) := by
  unfold appR
  cases hs : stopB d with
  | true => exact append_down w base p M ρ d n vb h hok hs
  | false =>
    rw [if_neg (by simp)]
    cases hnb : nameB n with
    | false => exact append_bad w base p M ρ d n vb h hok hs hn hnb
    | true =>
      rw [if_neg (by simp)]
      by_cases hr : d.room < (used d.now : Int) + (bs.length : Int)
      · rw [if_pos hr]
        exact append_full w base p M ρ d n vb bs h hok hM hs hnb hb hvo hr hbl
      · rw [if_neg hr]
        cases hg : (get d.now (nm n)).isSome with
        | true =>
          rw [if_neg (by simp)]
          obtain ⟨s, nn, vp, ps, h⟩ := h
          exact append_there w base p M ρ d d.now s nn vp ps n vb bs h hok hM rfl hs hnb hb hvo (by omega) hg
        | false =>
          by_cases hm : 64 ≤ d.now.length
          · rw [if_pos ⟨rfl, hm⟩]
            exact append_many w base p M ρ d n vb bs h hok hM hs hnb hb hvo (by omega) hg hm
          · rw [if_neg (by simp; omega)]
            exact append_anyE w base p M ρ d n vb bs h hok hM hs hnb hb hvo (by omega) (by omega)

theorem prename_any (h : Dk w base p ρ d) (hok : DOk M d) (hM : M ≤ 1000000) (n to : ByteArray) (hn : n.size ≤ maxLen) (hto : to.size ≤ maxLen) :
    Calls Try.prog 21 #[.pointer (some ⟨p, 0, none⟩), .string n, .string to] w (StPost base p ρ (reR d n to).2 w (.int .i64 (reR d n to).1)) := by
  unfold reR
  cases hs : stopB d with
  | true => exact rename_down w base p M ρ d n to h hok hs
  | false =>
    rw [if_neg (by simp)]
    cases hnb : nameB to with
    | false => exact rename_bad w base p M ρ d n to h hok hs hto hnb
    | true =>
      rw [if_neg (by simp)]
      cases hg : (get d.now (nm n)).isSome with
      | false => exact rename_none w base p M ρ d n to h hok hs hn hnb hg
      | true => exact rename_any w base p M ρ d n to h hok hM hs hn hnb hg

theorem premove_any (h : Dk w base p ρ d) (hok : DOk M d) (hM : M ≤ 1000000) (n : ByteArray) (hn : n.size ≤ maxLen) :
    Calls Try.prog 17 #[.pointer (some ⟨p, 0, none⟩), .string n] w (StPost base p ρ (rmR d n).2 w (.int .i64 (rmR d n).1)) := by
  unfold rmR
  cases hs : stopB d with
  | true => exact remove_down w base p M ρ d n h hok hs
  | false =>
    rw [if_neg (by simp)]
    cases hg : (get d.now (nm n)).isSome with
    | false => exact remove_none w base p M ρ d n h hok hs hn hg
    | true => exact remove_any w base p M ρ d n h hok hM hs hn hg

theorem psync_any (h : Dk w base p ρ d) (hok : DOk M d) (hM : M ≤ 1000000) :
    Calls Try.prog 20 #[.pointer (some ⟨p, 0, none⟩)] w (StPost base p ρ (syR d).2 w (.int .i64 (syR d).1)) := by
  unfold syR
  cases hs : stopB d with
  | true => exact sync_down w base p M ρ d h hok hs
  | false => exact sync_any w base p M ρ d h hok hM hs

theorem appR_ok0 (hok : DOk M d) (n : ByteArray) (bs : List UInt8) : DOk (M + 1) (appR d n bs).2 := by
  have h0 : DOk (M + 1) (stopD d) := (stop_ok hok).mono (by omega)
  have hr := hok.room1
  unfold appR
  cases hs : stopB d with
  | true => exact h0
  | false =>
    cases hnb : nameB n with
    | false => exact h0
    | true =>
      rw [if_neg (by simp), if_neg (by simp)]
      split
      · exact h0
      · split
        · exact h0
        · exact append_ok hok hnb (by omega)
theorem trR_ok0 (hok : DOk M d) (hM : M ≤ 1000) (n : ByteArray) (size : Int) (hn : n.size ≤ maxLen) : DOk (M + 1) (trR d n size).2 := by
  have h0 : DOk (M + 1) (stopD d) := (stop_ok hok).mono (by omega)
  have hu : (old d.now (nm n)).length ≤ 10000000000 := by
    have q2 := hok.small
    have q4 := used_all hok.rising d.cs
    have h9 : (old d.now (nm n)).length ≤ used d.now := get_len (rising_all hok.rising d.cs) (nm n)
    have h8 : used d.now = used (all d.syn d.cs) := rfl
    omega
  unfold trR
  split
  · exact h0
  · split
    · exact h0
    · split
      · exact h0
      · split
        · exact h0
        · exact push_ok hok (truncC n size.toNat) ⟨by show (1 : Nat) < 4; omega, fun _ => by show size.toNat ≤ (old d.now (nm n)).length; omega⟩ ⟨hn, by show (0 : Nat) ≤ _; exact Nat.zero_le _⟩ (by show size.toNat ≤ _; omega) (fun _ => rfl) (by show (0 : Nat) ≤ _; omega)
theorem nameB_small {s : ByteArray} (h : nameB s = true) : s.size ≤ maxLen := by
  simp [nameB] at h
  unfold maxLen; omega
theorem reR_ok0 (hok : DOk M d) (n to : ByteArray) (hn : n.size ≤ maxLen) : DOk (M + 1) (reR d n to).2 := by
  have h0 : DOk (M + 1) (stopD d) := (stop_ok hok).mono (by omega)
  unfold reR
  split
  · exact h0
  · split
    · exact h0
    · rename_i h
      split
      · exact h0
      · exact push_ok hok (renC n to) ⟨by show (2 : Nat) < 4; omega, fun e => by cases e⟩ ⟨hn, nameB_small (show nameB to = true by simpa using h)⟩ (by show (0 : Nat) ≤ _; omega) (fun _ => rfl) (by show (0 : Nat) ≤ _; omega)
theorem rmR_ok0 (hok : DOk M d) (n : ByteArray) (hn : n.size ≤ maxLen) : DOk (M + 1) (rmR d n).2 := by
  have h0 : DOk (M + 1) (stopD d) := (stop_ok hok).mono (by omega)
  unfold rmR
  split
  · exact h0
  · split
    · exact h0
    · exact remove_ok hok hn
theorem syR_ok0 (hok : DOk M d) : DOk (M + 1) (syR d).2 := by
  unfold syR
  split
  · exact (stop_ok hok).mono (by omega)
  · exact (sync_ok hok).mono (by omega)
theorem crR_ok0 (hok : DOk M d) (hM : M ≤ 1000000) (keep torn : Int) : DOk (M + 1) (crashD d keep torn) := (crash_ok hok hM keep torn).mono (by omega)
theorem fuR_ok0 (hok : DOk M d) (n : Int) (h1 : n ≤ 9223372036854775807) : DOk (M + 1) { d with fuse := max n (-1) } :=
  ⟨hok.rising, Nat.le_trans hok.few (by omega), Nat.le_trans hok.small (Nat.mul_le_mul_right _ (by omega)), hok.fit, hok.names, hok.sizes, hok.room0, hok.room1, by show -1 ≤ max n (-1); omega, by show max n (-1) ≤ _; omega, hok.plain⟩
theorem roR_ok0 (hok : DOk M d) (n : Int) (h0 : roomB n = true) : DOk (M + 1) { d with room := n } := by
  simp [roomB] at h0
  exact ⟨hok.rising, Nat.le_trans hok.few (by omega), Nat.le_trans hok.small (Nat.mul_le_mul_right _ (by omega)), hok.fit, hok.names, hok.sizes, h0.1, h0.2, hok.fuse0, hok.fuse1, hok.plain⟩
end

/-- no name is longer than sixteen bytes -/
def short1 (c : Change) : Prop := (c.kind = 0 ∨ c.kind = 1 → c.name.size ≤ 16) ∧ (c.kind = 2 → c.to.size ≤ 16)
def NmOk (d : DSt) : Prop := (∀ e ∈ d.syn, e.1.length ≤ 16) ∧ ∀ c ∈ d.cs, short1 c
theorem nm_len (s : ByteArray) : (nm s).length = s.size := rfl
theorem doit_short {es : Files} {c : Change} (h : ∀ e ∈ es, e.1.length ≤ 16) (hc : short1 c) : ∀ e ∈ doit es c, e.1.length ≤ 16 := by
  intro e he
  have hp : ∀ (es' : Files) (n : ByteArray) (bs : List UInt8), (∀ e ∈ es', e.1.length ≤ 16) → n.size ≤ 16 → e ∈ put es' (nm n) bs → e.1.length ≤ 16 := fun es' n bs h1 h2 he => by
    rcases mem_put.1 he with rfl | ⟨h, -⟩
    · rw [nm_len]; exact h2
    · exact h1 _ h
  unfold doit at he
  split at he
  · rename_i h0; exact hp _ _ _ h (hc.1 (.inl h0)) he
  · rename_i h0; exact hp _ _ _ h (hc.1 (.inr h0)) he
  · rename_i h0; exact hp _ _ _ (fun e he => h e (mem_drop.1 he).1) (hc.2 h0) he
  · exact h e (mem_drop.1 he).1
theorem all_short {es : Files} (h : ∀ e ∈ es, e.1.length ≤ 16) (cs : List Change) (hc : ∀ c ∈ cs, short1 c) : ∀ e ∈ all es cs, e.1.length ≤ 16 := by
  induction cs generalizing es with
  | nil => exact h
  | cons c cs ih => rw [all_cons]; exact ih (doit_short h (hc c (by simp))) fun x hx => hc x (by simp [hx])
section
variable {d : DSt} {M : Nat}
theorem NmOk.now (h : NmOk d) : ∀ e ∈ d.now, e.1.length ≤ 16 := all_short h.1 d.cs h.2
theorem NmOk.stop (h : NmOk d) : NmOk (stopD d) := by
  obtain ⟨e1, e2, e3⟩ := stop_same d
  unfold NmOk
  rw [e2, e3]
  exact h
theorem NmOk.push (h : NmOk d) {c : Change} (hc : short1 c) : NmOk (pushD d c) := by
  obtain ⟨e1, e2, e3⟩ := stop_same d
  refine ⟨by unfold pushD; simp only [e2]; exact h.1, fun x hx => ?_⟩
  unfold pushD at hx
  simp only [List.mem_append, List.mem_singleton] at hx
  rcases hx with hx | rfl
  · exact h.2 x hx
  · exact hc
theorem NmOk.has (h : NmOk d) {n : ByteArray} (hg : (get d.now (nm n)).isSome = true) : n.size ≤ 16 := by
  unfold fs.get at hg
  rw [Option.isSome_map, List.find?_isSome] at hg
  obtain ⟨e, he, hn⟩ := hg
  have := h.now e he
  have hn2 : e.1 = nm n := by simpa using hn
  rw [hn2, nm_len] at this
  exact this
theorem NmOk.crash (h : NmOk d) (keep torn : Int) : NmOk (crashD d keep torn) := by
  refine ⟨fun e he => ?_, fun c hc => by cases hc⟩
  have h1 := all_short h.1 (d.cs.take (crashK d keep)) fun c hc => h.2 c (List.mem_of_mem_take hc)
  have he2 : e ∈ crashF d keep torn := he
  unfold crashF at he2
  split at he2
  · rename_i c hc
    have hcm := h.2 c (List.mem_of_getElem? hc)
    unfold tearF at he2
    split at he2
    · exact h1 e he2
    · exact doit_short h1 (c := { c with bytes := c.bytes.take (tornN c torn) }) hcm e he2
  · exact h1 e he2
theorem nameB_16 {s : ByteArray} (h : nameB s = true) : s.size ≤ 16 := by
  simp [nameB] at h
  exact h.2

/-- in bounds, and no name too long -/
def OkN (M : Nat) (d : DSt) : Prop := DOk M d ∧ NmOk d
theorem appR_ok (hok : OkN M d) (n : ByteArray) (bs : List UInt8) : OkN (M + 1) (appR d n bs).2 := by
  refine ⟨appR_ok0 hok.1 n bs, ?_⟩
  have h0 := hok.2.stop
  unfold appR
  cases hs : stopB d with
  | true => exact h0
  | false =>
    cases hnb : nameB n with
    | false => exact h0
    | true =>
      rw [if_neg (by simp), if_neg (by simp)]
      split
      · exact h0
      · split
        · exact h0
        · exact hok.2.push ⟨fun _ => nameB_16 hnb, fun e => by cases e⟩
theorem trR_ok (hok : OkN M d) (hM : M ≤ 1000) (n : ByteArray) (size : Int) (hn : n.size ≤ maxLen) : OkN (M + 1) (trR d n size).2 := by
  refine ⟨trR_ok0 hok.1 hM n size hn, ?_⟩
  have h0 := hok.2.stop
  unfold trR
  split
  · exact h0
  · split
    · exact h0
    · rename_i hg
      split
      · exact h0
      · split
        · exact h0
        · exact hok.2.push ⟨fun _ => hok.2.has (by cases h9 : (fs.get d.now (nm n)).isSome with
          | true => exact h9
          | false => exact absurd h9 hg), fun e => by cases e⟩
theorem reR_ok (hok : OkN M d) (n to : ByteArray) (hn : n.size ≤ maxLen) : OkN (M + 1) (reR d n to).2 := by
  refine ⟨reR_ok0 hok.1 n to hn, ?_⟩
  have h0 := hok.2.stop
  unfold reR
  split
  · exact h0
  · split
    · exact h0
    · rename_i h
      split
      · exact h0
      · exact hok.2.push ⟨(fun e => by rcases e with e | e <;> cases e), fun _ => nameB_16 (show nameB to = true by simpa using h)⟩
theorem rmR_ok (hok : OkN M d) (n : ByteArray) (hn : n.size ≤ maxLen) : OkN (M + 1) (rmR d n).2 := by
  refine ⟨rmR_ok0 hok.1 n hn, ?_⟩
  have h0 := hok.2.stop
  unfold rmR
  split
  · exact h0
  · split
    · exact h0
    · exact hok.2.push ⟨(fun e => by rcases e with e | e <;> cases e), fun e => by cases e⟩
theorem syR_ok (hok : OkN M d) : OkN (M + 1) (syR d).2 := by
  refine ⟨syR_ok0 hok.1, ?_⟩
  unfold syR
  split
  · exact hok.2.stop
  · exact ⟨hok.2.now, fun c hc => by cases hc⟩
theorem crR_ok (hok : OkN M d) (hM : M ≤ 1000000) (keep torn : Int) : OkN (M + 1) (crashD d keep torn) := ⟨crR_ok0 hok.1 hM keep torn, hok.2.crash keep torn⟩
theorem fuR_ok (hok : OkN M d) (n : Int) (h1 : n ≤ 9223372036854775807) : OkN (M + 1) { d with fuse := max n (-1) } := ⟨fuR_ok0 hok.1 n h1, hok.2.1, hok.2.2⟩
theorem roR_ok (hok : OkN M d) (n : Int) (h0 : roomB n = true) : OkN (M + 1) { d with room := n } := ⟨roR_ok0 hok.1 n h0, hok.2.1, hok.2.2⟩
end

theorem pfuse_any {w : World} {base p : Nat} {ρ : Nat → Role} {d : DSt} (h : Dk w base p ρ d) (n : Int) : Calls Try.prog 9 #[.pointer (some ⟨p, 0, none⟩), .int .i64 n] w (StPost base p ρ { d with fuse := max n (-1) } w (.tuple #[])) := by
  refine (fuse_any w base p ρ d n h).mono ?_
  rintro e w' ⟨he, hd, hf⟩
  exact ⟨he, ρ, hd, hf⟩

theorem RAt.set_space {w : World} {r : Nat} {x : RSt} {vs vn vw : Value} (h : RAt w r x vs vn vw) (n : Int) : RAt (w.setCell ⟨r, 0, none⟩ (.int .i64 n)) r { x with space := n } vs vn vw :=
  ⟨World.cell?_setCell_same w _ _ h.c0, other_cell h.c1 (by omega), other_cell h.c2 (by omega), other_cell h.c3 (by omega), other_cell h.c4 (by omega), other_cell h.c5 (by omega), other_cell h.c6 (by omega), dsk.warm_set h.warm, by simpa using h.lt⟩

/-- the law's own bytes lie apart from all of the reference -/
def up1 (ρ : Nat → Role) (g : Nat) : Nat → Role := fun k => if k = g then .byt else ρ k
theorem up1_ne {ρ : Nat → Role} {g k : Nat} (h : k ≠ g) : up1 ρ g k = ρ k := if_neg h
theorem up1_at (ρ : Nat → Role) (g : Nat) : up1 ρ g g = .byt := if_pos rfl

end Go.Proofs.Ytmehneicdklfeaa.pair

namespace Go.Proofs.Ytmehneicdklfeaa.lst
open Go.RowKit Go.Proofs.Ytmehneicdklfeaa.sum Go.Proofs.Ytmehneicdklfeaa.kept Go.Proofs.Ytmehneicdklfeaa.app Go.Proofs.Ytmehneicdklfeaa.writer Go.Proofs.Ytmehneicdklfeaa.clone
set_option linter.unusedVariables false

abbrev Els := List (Value × List UInt8)
def Els.vals (ps : Els) : List Value := ps.map (·.1)
def Els.texts (ps : Els) : List (List UInt8) := ps.map (·.2)
theorem vals_length (ps : Els) : ps.vals.length = ps.length := List.length_map _
theorem texts_length (ps : Els) : ps.texts.length = ps.length := List.length_map _

/-- read: a slice of these elements, each of these bytes -/
def Ls (w : World) (v : Value) (ps : Els) : Prop :=
  (∃ a cap, v = .slice a ps.length cap ∧ ps.length ≤ cap ∧ cap ≤ maxLen ∧ (ps ≠ [] → ∃ b o, a = some ⟨b, o, none⟩ ∧ ∀ k (h : k < ps.length), w.cell? ⟨b, o + k, none⟩ = some ps[k].1)) ∧ ∀ q ∈ ps, Bs w q.1 q.2

theorem Ls.no {w w' : World} {v : Value} {ps : Els} (h : Ls w v ps) (hk : Kp No w w') : Ls w' v ps := by
  obtain ⟨⟨a, cap, rfl, h1, h2, h3⟩, h4⟩ := h
  refine ⟨⟨a, cap, rfl, h1, h2, fun hne => ?_⟩, fun q hq => bs_no (h4 q hq) hk⟩
  obtain ⟨b, o, rfl, hc⟩ := h3 hne
  exact ⟨b, o, rfl, fun k hkk => hk.cell' (hc k hkk) id⟩

/-- owned: a row of one's own, each element a row of bytes of one's own -/
structure Lo (w : World) (base : Nat) (v : Value) (ps : Els) : Prop where
  row : w.ownsRow base 26 1 v ps.length ps.vals
  each : ∀ q ∈ ps, w.ownsRow base 5 1 q.1 q.2.length (q.2.map B)

theorem Lo.nil (w : World) (base : Nat) : Lo w base (.slice none 0 0) [] := ⟨World.ownsRow_nil _ _ _ _, fun q hq => by cases hq⟩
theorem Lo.low {w : World} {base base' : Nat} {v : Value} {ps : Els} (h : Lo w base v ps) (hb : base' ≤ base) : Lo w base' v ps := ⟨owns_base h.row hb, fun q hq => owns_base (h.each q hq) hb⟩
theorem Lo.kept {S : Nat → Prop} {w w' : World} {base : Nat} {v : Value} {ps : Els} (h : Lo w base v ps) (hk : Kp S w w') (hs : ∀ k, base ≤ k → k < w.heap.size → ¬ S k) : Lo w' base v ps :=
  ⟨owns_kept h.row hk fun k hkk => hs k (h.row.lt k hkk).1 (h.row.lt k hkk).2, fun q hq => owns_kept (h.each q hq) hk fun k hkk => hs k ((h.each q hq).lt k hkk).1 ((h.each q hq).lt k hkk).2⟩
theorem Lo.no {w w' : World} {base : Nat} {v : Value} {ps : Els} (h : Lo w base v ps) (hk : Kp No w w') : Lo w' base v ps := h.kept hk fun _ _ _ => id

theorem Lo.ls {w : World} {base : Nat} {v : Value} {ps : Els} (h : Lo w base v ps) : Ls w v ps := by
  refine ⟨?_, fun q hq => owns_bs (h.each q hq)⟩
  rcases h.row.2 with ⟨rfl, h0⟩ | ⟨g, cap, cur, rfl, hb, hg, r1, r2, r3, r4⟩
  · have : ps = [] := List.eq_nil_of_length_eq_zero h0
    subst this
    exact ⟨none, 0, rfl, Nat.le_refl _, Nat.zero_le _, fun h => absurd rfl h⟩
  · refine ⟨_, cap, rfl, r1, r2, fun _ => ⟨g, 0, rfl, fun k hk => ?_⟩⟩
    have := h.row.cells (g := g) rfl k ps[k].1 (by simp [Els.vals, hk])
    rw [addr_add] at this
    exact this

/-- a row of bytes is no row of slices -/
theorem rows_apart {w : World} {base base' : Nat} {v x : Value} {n m : Nat} {xs ys : List Value} (h : w.ownsRow base 26 1 v n xs) (k : w.ownsRow base' 5 1 x m ys) : ∀ g, x.ownBlock = some g → v.ownBlock ≠ some g := by
  intro g hg e
  rcases h.2 with ⟨rfl, _⟩ | ⟨g1, cap, cur, rfl, _, h1, _⟩
  · cases e
  · rcases k.2 with ⟨rfl, _⟩ | ⟨g2, cap2, cur2, rfl, _, h2, _⟩
    · cases hg
    · simp [Value.ownBlock] at e hg
      subst e hg
      rw [h1] at h2
      injection h2 with h2
      injection h2 with _ h3
      cases h3

theorem infoS : (Try.prog.info? 26).map (fun i => (i.zero, i.size, i.bytes)) = some (some (.slice none 0 0), 1, 24) := by kernel_rfl

/-- what an append of one element leaves -/
def Push (base : Nat) (w : World) (v : Value) (ps : Els) (x : Value) (bs : List UInt8) (v' : Value) (w' : World) : Prop :=
  Lo w' base v' (ps ++ [(x, bs)]) ∧ Kp (fun k => some k = v.ownBlock) w w' ∧ (v'.ownBlock = v.ownBlock ∨ v'.ownBlock = some w.heap.size) ∧ ∃ g cap, v' = .slice (some ⟨g, 0, none⟩) (ps.length + 1) cap

theorem run_push (w : World) (ty : TypeId) (base : Nat) (v : Value) (ps : Els) (h : Lo w base v ps) (hbase : base ≤ w.heap.size) (x : Value) (bs : List UInt8) (hx : w.ownsRow base 5 1 x bs.length (bs.map B)) (g : Nat) (c : Nat)
    (hg : w.heap[g]? = some (.cells #[x] 26 (0, 0))) (hn : ps.length ≤ 1000000000000) :
    ∃ v' w', (Builtin.append_ #[49, 49] ty #[v, .slice (some ⟨g, 0, none⟩) 1 c]).run Try.prog w = .ok v' w' ∧ Push base w v ps x bs v' w' := by
  obtain ⟨i0, hi, hz0, hz1, hz2⟩ := info_parts infoS
  have hone : x.oneCell' = true := by rcases hx.2 with ⟨rfl, _⟩ | ⟨_, _, _, rfl, _⟩ <;> rfl
  obtain ⟨v', w', hr, k1, k2, k3, k4⟩ := run_append_own_at (P := Try.prog) w base 49 ty 26 i0 (.slice none 0 0) 1 24 Try.underlying49 hi hz0 hz1 hz2 rfl (by decide) v ps.length _ h.row ⟨g, 0, none⟩ 1 c [x]
    rfl (World.news_of_block (cs := #[x]) hg) (by simpa using hone) (by unfold maxLen; omega) (by omega) hbase
  have hk : Kp (fun k => some k = v.ownBlock) w w' := (Kp.refl _ _).grown k2 fun k _ e => e.symm
  refine ⟨v', w', hr, ⟨?_, fun q hq => ?_⟩, hk, k4, ?_⟩
  · simpa [Els.vals] using k1
  · rcases List.mem_append.1 hq with hq | hq
    · exact owns_kept (h.each q hq) hk fun k e e2 => rows_apart h.row (h.each q hq) k e e2.symm
    · simp only [List.mem_singleton] at hq
      subst hq
      exact owns_kept hx hk fun k e e2 => rows_apart h.row hx k e e2.symm
  · rcases k1.2 with ⟨_, h0⟩ | ⟨g, cap, cur, rfl, _⟩
    · omega
    · exact ⟨g, cap, rfl⟩

theorem wp_push (w : World) {o : Oper} {a : Act} {K : Act → World → Prop} {Q : Exit → Act → World → Prop} (s e : Operand)
    (ho : o.op = .call { callee := .builtin .append, args := #[s, e], argTypes := #[49, 49] })
    (base : Nat) (v : Value) (ps : Els) (hs : a.eval s = v) (hl : Lo w base v ps) (hbase : base ≤ w.heap.size) (x : Value) (bs : List UInt8) (hx : w.ownsRow base 5 1 x bs.length (bs.map B)) (g : Nat) (c : Nat) (he : a.eval e = .slice (some ⟨g, 0, none⟩) 1 c)
    (hg : w.heap[g]? = some (.cells #[x] 26 (0, 0))) (hn : ps.length ≤ 1000000000000)
    (h : ∀ v' w', Push base w v ps x bs v' w' → K (a.put o.dst v') w') : Oper.wp Try.prog o a w K Q := by
  obtain ⟨v', w', hr, h2⟩ := run_push w o.type base v ps hl hbase x bs hx g c hg hn
  unfold Oper.wp execOp
  simp only [ho, resolve, invoke, builtin, Sem.run_bind, Sem.run_pure, Result.andThen_ok, List.map_toArray, List.map_cons, List.map_nil, hs, he, hr]
  exact h v' w' h2

theorem wpList_push (w : World) {ops : Array Oper} {rest : List Oper} {o : Oper} {a : Act} {Q : Exit → Act → World → Prop} (hgd : o.guard = none) (s e : Operand)
    (ho : o.op = .call { callee := .builtin .append, args := #[s, e], argTypes := #[49, 49] })
    (base : Nat) (v : Value) (ps : Els) (hs : a.eval s = v) (hl : Lo w base v ps) (hbase : base ≤ w.heap.size) (x : Value) (bs : List UInt8) (hx : w.ownsRow base 5 1 x bs.length (bs.map B)) (g : Nat) (c : Nat) (he : a.eval e = .slice (some ⟨g, 0, none⟩) 1 c)
    (hg : w.heap[g]? = some (.cells #[x] 26 (0, 0))) (hn : ps.length ≤ 1000000000000)
    (h : ∀ v' w', Push base w v ps x bs v' w' → wpList Try.prog ops Q rest (a.put o.dst v') w') : wpList Try.prog ops Q (o :: rest) a w :=
  wpList_plain hgd fun _ hK => wp_push w s e ho base v ps hs hl hbase x bs hx g c he hg hn fun v' w' h2 => hK _ _ (h v' w' h2)

theorem step_push (w : World) {ops : Array Oper} {o : Oper} {a : Act} {K : Act → World → Prop} {Q : Exit → Act → World → Prop} {E : Prop} (hgd : o.guard = none) (s e : Operand)
    (ho : o.op = .call { callee := .builtin .append, args := #[s, e], argTypes := #[49, 49] })
    (base : Nat) (v : Value) (ps : Els) (hs : a.eval s = v) (hl : Lo w base v ps) (hbase : base ≤ w.heap.size) (x : Value) (bs : List UInt8) (hx : w.ownsRow base 5 1 x bs.length (bs.map B)) (g : Nat) (c : Nat) (he : a.eval e = .slice (some ⟨g, 0, none⟩) 1 c)
    (hg : w.heap[g]? = some (.cells #[x] 26 (0, 0))) (hn : ps.length ≤ 1000000000000)
    (h : ∀ v' w', Push base w v ps x bs v' w' → K (a.put o.dst v') w') : if Region.wanted o (yielded ops a.tmps) = true then Oper.wp Try.prog o a w K Q else E := by
  have hw : Region.wanted o (yielded ops a.tmps) = true := by simp [Region.wanted, hgd]
  rw [if_pos hw]
  exact wp_push w s e ho base v ps hs hl hbase x bs hx g c he hg hn h

theorem step_append_bs (w : World) {ops : Array Oper} {o : Oper} {a : Act} {K : Act → World → Prop} {Q : Exit → Act → World → Prop} {E : Prop} (hgd : o.guard = none) (s x : Operand)
    (ho : o.op = .call { callee := .builtin .append, args := #[s, x], argTypes := #[26, 26] })
    (base : Nat) (v : Value) (bs : List UInt8) (hs : a.eval s = v) (hown : w.ownsRow base 5 1 v bs.length (bs.map B)) (xv : Value) (cs : List UInt8) (hx : a.eval x = xv) (hxs : Bs w xv cs)
    (hb : bs.length + cs.length ≤ 140737488355328) (hbase : base ≤ w.heap.size)
    (h : ∀ v' w', App base w v bs cs v' w' → K (a.put o.dst v') w') : if Region.wanted o (yielded ops a.tmps) = true then Oper.wp Try.prog o a w K Q else E := by
  have hw : Region.wanted o (yielded ops a.tmps) = true := by simp [Region.wanted, hgd]
  rw [if_pos hw]
  obtain ⟨v', w', hr, h2⟩ := run_append_bs w o.type base v bs hown xv cs hxs hb hbase
  unfold Oper.wp execOp
  simp only [ho, resolve, invoke, builtin, Sem.run_bind, Sem.run_pure, Result.andThen_ok, List.map_toArray, List.map_cons, List.map_nil, hs, hx, hr]
  exact h v' w' h2

theorem app_some {base : Nat} {w w' : World} {b n c : Nat} {bs cs : List UInt8} {v' : Value} (h : App base w (.slice (some ⟨b, 0, none⟩) n c) bs cs v' w') : ∃ g cap, v' = .slice (some ⟨g, 0, none⟩) (bs ++ cs).length cap ∧ (g = b ∨ g = w.heap.size) := by
  obtain ⟨h1, h2, h3, h4⟩ := h
  rcases h1.2 with ⟨e, h0⟩ | ⟨g, cap, cur, rfl, _⟩
  · have := h3.1 e
    simp at this
  · refine ⟨g, cap, rfl, ?_⟩
    simp [Value.ownBlock] at h4
    exact h4

theorem app_new {base : Nat} {w w' : World} {b n c : Nat} {cs : List UInt8} {v' : Value} (h : App base w (.slice (some ⟨b, 0, none⟩) n c) [] cs v' w') : ∃ g cap, v' = .slice (some ⟨g, 0, none⟩) cs.length cap ∧ w'.ownsRow base 5 1 v' cs.length (cs.map B) := by
  obtain ⟨g, cap, e, -⟩ := app_some h
  exact ⟨g, cap, e, by simpa using h.1⟩

/-- what a call leaves that makes a list -/
def NewLs (w : World) (l : List (List UInt8)) (e : Ending) (w' : World) : Prop := ∃ v' ps, e = .returned v' ∧ Lo w' w.heap.size v' ps ∧ ps.texts = l ∧ Kp No w w'

end Go.Proofs.Ytmehneicdklfeaa.lst
