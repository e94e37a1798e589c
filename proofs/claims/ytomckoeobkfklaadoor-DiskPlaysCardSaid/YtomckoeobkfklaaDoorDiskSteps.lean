/- What each call leaves is in bounds still; Append, whether the file is there or not. -/
import Derived.Test.YtomckoeobkfklaaDoorDiskCrash
namespace Go.Proofs.YtomckoeobkfklaaDoor.dsk
open Go.RowKit Go.Maps Go.Proofs.YtomckoeobkfklaaDoor.sum Go.Proofs.YtomckoeobkfklaaDoor.kept Go.Proofs.YtomckoeobkfklaaDoor.app Go.Proofs.YtomckoeobkfklaaDoor.writer Go.Proofs.YtomckoeobkfklaaDoor.clone Go.Proofs.YtomckoeobkfklaaDoor.unseal Go.Proofs.YtomckoeobkfklaaDoor.fs Go.Proofs.YtomckoeobkfklaaDoor.fsMem Go.Proofs.YtomckoeobkfklaaDoor.fsDo Go.Proofs.YtomckoeobkfklaaDoor.fsUsed Go.Proofs.YtomckoeobkfklaaDoor.turned
set_option linter.unusedVariables false

theorem push_ok {M : Nat} {d : DSt} (h : DOk M d) (c : Change) (hf : c.fits d.now) (hnm : c.name.size ≤ maxLen ∧ c.to.size ≤ maxLen) (hs : c.size ≤ 9223372036854775807) (hp : c.kind ≠ 0 → c.bytes = []) (hb : c.bytes.length ≤ 8388608) :
    DOk (M + 1) { stopD d with cs := d.cs ++ [c] } := by
  have h2 := stop_ok h
  obtain ⟨e1, e2, e3⟩ := stop_same d
  have q1 := h.few
  have q2 := h.small
  refine ⟨h2.rising, ?_, ?_, ?_, ?_, ?_, h2.room0, h2.room1, h2.fuse0, h2.fuse1, ?_⟩
  · simp only [e2, List.length_append, List.length_cons, List.length_nil]; omega
  · simp only [e2, bytesOf_append, bytesOf]
    have e : (M + 1) * 8388608 = M * 8388608 + 8388608 := by omega
    omega
  · simp only [e2]; exact fitsAll_snoc h.fit hf
  · intro x hx
    simp only [List.mem_append, List.mem_cons, List.not_mem_nil, or_false] at hx
    rcases hx with hx | rfl
    · exact h.names x hx
    · exact hnm
  · intro x hx
    simp only [List.mem_append, List.mem_cons, List.not_mem_nil, or_false] at hx
    rcases hx with hx | rfl
    · exact h.sizes x hx
    · exact hs
  · intro x hx
    simp only [List.mem_append, List.mem_cons, List.not_mem_nil, or_false] at hx
    rcases hx with hx | rfl
    · exact h.plain x hx
    · exact hp

theorem append_ok {M : Nat} {d : DSt} (h : DOk M d) {name : ByteArray} {bs : List UInt8} (hn : nameB name = true) (hb : bs.length ≤ 8388608) : DOk (M + 1) { stopD d with cs := d.cs ++ [appC name bs] } := by
  refine push_ok h (appC name bs) ⟨by show (0 : Nat) < 4; omega, fun e => by cases e⟩ ⟨?_, by show (0 : Nat) ≤ _; exact Nat.zero_le _⟩ (by show (0 : Nat) ≤ _; exact Nat.zero_le _) (fun e => absurd rfl e) hb
  simp [nameB] at hn
  show name.size ≤ _
  unfold maxLen; omega

theorem remove_ok {M : Nat} {d : DSt} (h : DOk M d) {name : ByteArray} (hn : name.size ≤ maxLen) : DOk (M + 1) { stopD d with cs := d.cs ++ [remC name] } :=
  push_ok h (remC name) ⟨by show (3 : Nat) < 4; omega, fun e => by cases e⟩ ⟨hn, by show (0 : Nat) ≤ _; exact Nat.zero_le _⟩ (by show (0 : Nat) ≤ _; exact Nat.zero_le _) (fun _ => rfl) (by show (0 : Nat) ≤ _; exact Nat.zero_le _)

theorem sync_ok {M : Nat} {d : DSt} (h : DOk M d) : DOk M { stopD d with syn := d.now, cs := [] } := by
  have h2 := stop_ok h
  have q1 := h.few
  have q2 := h.small
  have q3 := len_all h.rising d.cs
  have q4 := used_all h.rising d.cs
  refine ⟨rising_all h.rising _, ?_, ?_, trivial, (fun c hc => by cases hc), (fun c hc => by cases hc), h2.room0, h2.room1, h2.fuse0, h2.fuse1, (fun c hc => by cases hc)⟩
  · simp only [DSt.now, List.length_nil]; omega
  · simp only [DSt.now, bytesOf]; omega

theorem crash_ok {M : Nat} {d : DSt} (h : DOk M d) (hM : M ≤ 1000000) (keep torn : Int) : DOk M (crashD d keep torn) := by
  obtain ⟨h1, h2, h3⟩ := crash_bounds h hM keep torn
  refine ⟨h3, ?_, ?_, trivial, (fun c hc => by cases hc), (fun c hc => by cases hc), h.room0, h.room1, ?_, ?_, (fun c hc => by cases hc)⟩
  · show (crashF d keep torn).length + 0 ≤ _; omega
  · show used (crashF d keep torn) + 0 ≤ _; omega
  · show (-1 : Int) ≤ -1; omega
  · show (-1 : Int) ≤ _; omega

theorem append_anyE (w : World) (base p M : Nat) (ρ : Nat → Role) (d : DSt) (name : ByteArray) (vb : Value) (bs : List UInt8) (h : Dk w base p ρ d) (hok : DOk M d) (hM : M ≤ 1000000) (hstop : stopB d = false) (hname : nameB name = true) (hb : Bs w vb bs)
    (hvo : bs ≠ [] → ∀ x o m c, vb = .slice (some ⟨x, o, none⟩) m c → ρ x = .other) (hroom : (used d.now : Int) + (bs.length : Int) ≤ d.room) (hfew : d.now.length < 64) :
    Calls Tryd.prog 9 #[.pointer (some ⟨p, 0, none⟩), .string name, vb] w (StPost base p ρ { stopD d with cs := d.cs ++ [appC name bs] } w (.int .i64 0)) := by
  obtain ⟨s, n, vp, ps, h⟩ := h
  cases hg : (fs.get d.now (nm name)).isSome with
  | true => exact append_there w base p M ρ d d.now s n vp ps name vb bs h hok hM rfl hstop hname hb hvo hroom hg
  | false => exact append_new w base p M ρ d d.now s n vp ps name vb bs h hok hM rfl hstop hname hb hvo hroom hg hfew

theorem append_any (w : World) (base p M : Nat) (ρ : Nat → Role) (d : DSt) (name : ByteArray) (vb : Value) (bs : List UInt8) (h : Dk w base p ρ d) (hok : DOk M d) (hM : M ≤ 1000000) (hstop : stopB d = false) (hname : nameB name = true) (hb : Bs w vb bs)
    (hvo : ∀ x o m c, vb = .slice (some ⟨x, o, none⟩) m c → ρ x = .other) (hroom : (used d.now : Int) + (bs.length : Int) ≤ d.room) (hfew : d.now.length < 64) :
    Calls Tryd.prog 9 #[.pointer (some ⟨p, 0, none⟩), .string name, vb] w (StPost base p ρ { stopD d with cs := d.cs ++ [appC name bs] } w (.int .i64 0)) :=
  append_anyE w base p M ρ d name vb bs h hok hM hstop hname hb (fun _ => hvo) hroom hfew

theorem Dk.hi {w : World} {base p : Nat} {ρ : Nat → Role} {d : DSt} (h : Dk w base p ρ d) {k : Nat} (hk : w.heap.size ≤ k) : ρ k = .other := by
  obtain ⟨s, n, vp, ps, h⟩ := h; exact h.hi k hk

/-- what a call on a disk of ours did is nothing to the world that was there before the disk -/
theorem Dk.out {w w1 w2 : World} {base p : Nat} {ρ ρ2 : Nat → Role} {d : DSt} (h : Dk w1 base p ρ d) (hb : w.heap.size ≤ base) (hk : Kp No w w1) (hf : Fr ρ w1 ρ2 w2) : Kp No w w2 := by
  obtain ⟨s, n, vp, ps, h⟩ := h
  refine hk.trans hf.1 fun k hk2 e => ?_
  have := h.low k e
  omega

end Go.Proofs.YtomckoeobkfklaaDoor.dsk
