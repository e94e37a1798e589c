/- What each call on a disk answers and leaves, in plain words; the reference's Disk as a disk's state. -/
import Derived.Test.YtomckoeobkfklaaDoorR2Used
namespace Go.Proofs.YtomckoeobkfklaaDoor.r2
open Go.RowKit Go.Maps Go.Proofs.YtomckoeobkfklaaDoor.sum Go.Proofs.YtomckoeobkfklaaDoor.kept Go.Proofs.YtomckoeobkfklaaDoor.app Go.Proofs.YtomckoeobkfklaaDoor.writer Go.Proofs.YtomckoeobkfklaaDoor.clone Go.Proofs.YtomckoeobkfklaaDoor.fs Go.Proofs.YtomckoeobkfklaaDoor.fsDo Go.Proofs.YtomckoeobkfklaaDoor.unseal Go.Proofs.YtomckoeobkfklaaDoor.dsk
set_option linter.unusedVariables false

def pushD (d : DSt) (c : Change) : DSt := { stopD d with cs := d.cs ++ [c] }
def appR (d : DSt) (n : ByteArray) (bs : List UInt8) : Int × DSt :=
  if stopB d = true then (3, stopD d) else if nameB n = false then (1, stopD d) else if d.room < (used d.now : Int) + (bs.length : Int) then (2, stopD d)
  else if (get d.now (nm n)).isSome = false ∧ 64 ≤ d.now.length then (2, stopD d) else (0, pushD d (appC n bs))
def trR (d : DSt) (n : ByteArray) (size : Int) : Int × DSt :=
  if stopB d = true then (3, stopD d) else if (get d.now (nm n)).isSome = false then (4, stopD d) else if size < 0 then (1, stopD d) else if ((old d.now (nm n)).length : Int) < size then (1, stopD d) else (0, pushD d (truncC n size.toNat))
def reR (d : DSt) (n to : ByteArray) : Int × DSt :=
  if stopB d = true then (3, stopD d) else if nameB to = false then (1, stopD d) else if (get d.now (nm n)).isSome = false then (4, stopD d) else (0, pushD d (renC n to))
def rmR (d : DSt) (n : ByteArray) : Int × DSt :=
  if stopB d = true then (3, stopD d) else if (get d.now (nm n)).isSome = false then (4, stopD d) else (0, pushD d (remC n))
def syR (d : DSt) : Int × DSt := if stopB d = true then (3, stopD d) else (0, { stopD d with syn := d.now, cs := [] })

/-- the reference's state stands for the disk's -/
structure RD (d : DSt) (x : RSt) (ls ln : List Fv) (ps : List (Change × Value)) : Prop where
  room : d.room = x.space
  down : d.down = x.down
  fuse : d.fuse = if x.fused = true then x.fuse else -1
  fuse0 : 0 ≤ x.fuse
  fuse1 : x.fuse ≤ 9223372036854775807
  syn : files ls = d.syn
  now : files ln = d.now
  cs : ps.map (·.1) = d.cs

section
variable {d : DSt} {x : RSt} {ls ln : List Fv} {ps : List (Change × Value)}
theorem RD.stops (h : RD d x ls ln ps) : cntB x = stopB d := by
  have h1 := h.down
  have h2 := h.fuse
  unfold cntB stopB
  rw [h1, h2]
  cases x.fused <;> simp
theorem RD.counted (h : RD d x ls ln ps) : RD (stopD d) (cntX x) ls ln ps := by
  have hs := h.stops
  have h0 := h.fuse0
  have h1 := h.fuse1
  obtain ⟨e1, e2, e3⟩ := stop_same d
  have hn : (stopD d).now = d.now := by unfold DSt.now; rw [e2, e3]
  obtain ⟨r1, r2, r3, -, -, r4, r5, r6⟩ := h
  have hx : (cntX x).space = x.space ∧ (cntX x).fused = x.fused := by unfold cntX; split <;> (try split) <;> exact ⟨rfl, rfl⟩
  have hd : (stopD d).down = (cntX x).down ∧ (stopD d).fuse = (if x.fused = true then (cntX x).fuse else -1) ∧ 0 ≤ (cntX x).fuse ∧ (cntX x).fuse ≤ 9223372036854775807 := by
    unfold stopD cntX
    rw [hs]
    unfold stopB
    rw [r2, r3]
    cases hd : x.down <;> cases hf : x.fused <;> simp [hd, hf, r2, r3]
    · omega
    · by_cases hz : x.fuse = 0
      · simp [hz]
      · have : 0 < x.fuse := by omega
        simp [hz, this]
        omega
    · omega
    · omega
  exact ⟨by rw [e1, hx.1]; exact r1, hd.1, by rw [hx.2]; exact hd.2.1, hd.2.2.1, hd.2.2.2, by rw [e2]; exact r4, by rw [hn]; exact r5, by rw [e3]; exact r6⟩
theorem RD.up (h : RD d x ls ln ps) (hs : stopB d = false) : (cntX x).down = false := by
  rw [← h.counted.down]
  unfold stopB at hs
  unfold stopD
  simp at hs
  rw [if_neg (by simp [hs])]
  split
  · exact hs.1
  · exact hs.1
theorem RD.pushed (h : RD d x ls ln ps) {ln' : List Fv} {c : Change} {v : Value} (he : files ln' = doit (files ln) c) : RD (pushD d c) (cntX x) ls ln' (ps ++ [(c, v)]) := by
  have k := h.counted
  obtain ⟨e1, e2, e3⟩ := stop_same d
  refine ⟨k.room, k.down, k.fuse, k.fuse0, k.fuse1, k.syn, ?_, ?_⟩
  · rw [he, h.now]
    have := all_snoc d.syn d.cs c
    unfold DSt.now pushD
    simp only [e2]
    exact this.symm
  · unfold pushD
    simp [h.cs]
end

theorem files_len (l : List Fv) : (files l).length = l.length := List.length_map _

/-- what the bounds give -/
theorem RD.bounds {d : DSt} {x : RSt} {ls ln : List Fv} {ps : List (Change × Value)} {M : Nat} (h : RD d x ls ln ps) (hok : DOk M d) (hM : M ≤ 1000) :
    Rising (files ln) ∧ ln.length ≤ 1000 ∧ used (files ln) ≤ 10000000000 ∧ ps.length ≤ 1000 ∧ Rising (files ls) ∧ ls.length ≤ 1000 ∧ used (files ls) ≤ 10000000000 ∧ bytesOf d.cs ≤ 10000000000 := by
  have q1 := hok.few
  have q2 := hok.small
  have q3 := len_all hok.rising d.cs
  have q4 := used_all hok.rising d.cs
  have q5 := rising_all hok.rising d.cs
  have l1 := files_len ln
  have l2 := files_len ls
  have l3 : ps.length = d.cs.length := by rw [← h.cs, List.length_map]
  rw [h.now] at l1 ⊢
  rw [h.syn] at l2 ⊢
  unfold DSt.now at *
  exact ⟨q5, by omega, by omega, by omega, hok.rising, by omega, by omega, by omega⟩

/-- what a call on the reference leaves -/
def RPost (w : World) (ρ : Nat → Role) (r : Nat) (d : DSt) (res : Value) (e : Ending) (w' : World) : Prop :=
  e = .returned res ∧ Kp (fun k => k = r) w w' ∧ ∃ x vs vn vw ls ln ps, RS w' ρ r x vs vn vw ls ln ps ∧ RD d x ls ln ps

/-- counts, on such a state -/
theorem counted_any (w : World) (ρ : Nat → Role) (r : Nat) (d : DSt) (x : RSt) (vs vn vw : Value) (ls ln : List Fv) (ps : List (Change × Value)) (h : RS w ρ r x vs vn vw ls ln ps) (hd : RD d x ls ln ps) :
    Calls Tryd.prog 43 #[.pointer (some ⟨r, 0, none⟩)] w fun e w' => e = .returned (.int .i64 (if stopB d = true then 3 else 0)) ∧ RS w' ρ r (cntX x) vs vn vw ls ln ps ∧ Kp (fun k => k = r) w w' := by
  refine (counts_any w r x vs vn vw h.at_ hd.fuse0 hd.fuse1).mono ?_
  rintro e w' ⟨he, ha, hk⟩
  rw [hd.stops] at he
  exact ⟨he, h.own hk ha, hk⟩

end Go.Proofs.YtomckoeobkfklaaDoor.r2
