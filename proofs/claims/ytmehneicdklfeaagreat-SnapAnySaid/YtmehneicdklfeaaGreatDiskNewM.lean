/- disk.New, and the Disk's calls that only tell. (*Disk).Sync, (*Disk).Remove. What each call leaves is in bounds still; Append, whether the file is there or not. New's refusal; the Append of a disk that has stopped. disk.within. (files).tear: a part of an append that a crash cut off. A copy of files in memory. -/
import Derived.Test.YtmehneicdklfeaaGreatDiskAppend
import Derived.Test.YtmehneicdklfeaaGreatFsUsedM
import Derived.Test.YtmehneicdklfeaaGreatDiskDoM
import Derived.Deep.RegionWith
import Derived.RegionCalls

namespace Go.Proofs.YtmehneicdklfeaaGreat.dsk
open Go.RowKit Go.Maps Go.Proofs.YtmehneicdklfeaaGreat.sum Go.Proofs.YtmehneicdklfeaaGreat.kept Go.Proofs.YtmehneicdklfeaaGreat.app Go.Proofs.YtmehneicdklfeaaGreat.writer Go.Proofs.YtmehneicdklfeaaGreat.clone Go.Proofs.YtmehneicdklfeaaGreat.unseal Go.Proofs.YtmehneicdklfeaaGreat.fs Go.Proofs.YtmehneicdklfeaaGreat.fsMem Go.Proofs.YtmehneicdklfeaaGreat.fsDo Go.Proofs.YtmehneicdklfeaaGreat.fsUsed Go.Proofs.YtmehneicdklfeaaGreat.turned
set_option linter.unusedVariables false

def newD (room : Int) : DSt := ⟨room, -1, false, [], []⟩
theorem new_ok (room : Int) (h0 : 0 ≤ room) (h1 : room ≤ 8388608) : DOk 0 (newD room) :=
  ⟨rising_nil, Nat.le_refl _, by simp [newD, used, bytesOf], trivial, (fun c hc => by cases hc), (fun c hc => by cases hc), h0, h1, by simp [newD], by simp [newD], (fun c hc => by cases hc)⟩

theorem new_mem (w : World) (room : Int) : Dk (((w.alloc (.map #[] 0)).alloc (.map #[] 0)).alloc (.cells #[.int .i64 room, .int .i64 (-1), .bool false, .map (some w.heap.size), .map (some (w.heap.size + 1)), .slice none 0 0] 76)) w.heap.size (w.heap.size + 2)
    (fun k => if k = w.heap.size then .smap else if k = w.heap.size + 1 then .nmap else if k = w.heap.size + 2 then .disk else .other) (newD room) := by
  have e1 : (w.alloc (.map #[] 0)).heap.size = w.heap.size + 1 := by simp
  have e2 : ((w.alloc (.map #[] 0)).alloc (.map #[] 0)).heap.size = w.heap.size + 2 := by simp
  have m1 := World.ownsMap_made w Tryz.prog 9 raw
  have m2 := World.ownsMap_made (w.alloc (.map #[] 0)) Tryz.prog 9 raw
  rw [e1] at m2
  have hc : ∀ (W2 : World) (o : Nat) (cs : Array Value) (v : Value), cs[o]? = some v → W2.heap.size = w.heap.size + 2 → (W2.alloc (.cells cs 76)).cell? ⟨w.heap.size + 2, o, none⟩ = some v := by
    intro W2 o cs v hv hs
    rw [← hs]
    simp [hv]
  have hf : ∀ (W2 : World) (cs : Array Value) (o : Nat), W2.heap.size = w.heap.size + 2 → (W2.alloc (.cells cs 76)).frozen? ⟨w.heap.size + 2, o, none⟩ = false := by
    intro W2 cs o hs
    rw [← hs]
    simp
  refine ⟨w.heap.size, w.heap.size + 1, .slice none 0 0, [], ⟨hc _ _ _ _ rfl e2, hc _ _ _ _ rfl e2, hc _ _ _ _ rfl e2, hc _ _ _ _ rfl e2, hc _ _ _ _ rfl e2, hc _ _ _ _ rfl e2, fun o => hf _ _ _ e2, ?_, ?_, rfl, World.ownsRow_nil _ _ _ _, (fun q hq => by cases hq), ?_, ?_, ?_, (fun g hg => by simp [Value.ownBlock] at hg), by omega, fun k hk => ?_, fun k hk => ?_⟩⟩
  · exact ⟨rising_nil, sOf_none (by simp), Nat.le_refl _, fun _ => .nilIface, (m1.alloc _).alloc _, fun e he => by cases he⟩
  · exact ⟨rising_nil, nOf_none (by simp), by omega, fun _ => .nilIface, m2.alloc _, fun e he => by cases he⟩
  · simp
  · simp
  · simp
  · (try simp only at hk)
    split at hk
    · omega
    · split at hk
      · omega
      · split at hk
        · omega
        · exact absurd rfl hk
  · simp only [World.size_alloc] at hk
    (try simp only)
    rw [if_neg (by omega), if_neg (by omega), if_neg (by omega)]

set_option maxRecDepth 100000 in
set_option maxHeartbeats 1000000 in
theorem new_any (w : World) (room : Int) (h0 : 0 ≤ room) (h1 : room ≤ 8388608) : Calls Tryz.prog 15 #[.int .i64 room] w fun e w' => ∃ p ρ, e = .returned (.tuple #[.pointer (some ⟨p, 0, none⟩), .int .i64 0]) ∧ Dk w' w.heap.size p ρ (newD room) ∧ Kp No w w' ∧ w.heap.size ≤ p := by
  have hr := fun w => room_any w room
  have e : roomB room = true := by simp [roomB, h0, h1]
  rw [e] at hr
  have HR := fun w => Hid_mk (hr w)
  have hmm := @run_makeMap Tryz.prog
  have HF := Hid_mk (new_mem w room)
  clear hr e
  go_enter Tryz.func15, Tryz.ntmps15
  go_wp2_with fail
  refine (HR _).out.mono ?_
  rintro e w' ⟨rfl, rfl⟩
  go_wp2
  go_ret2
  exact ⟨_, _, rfl, HF.out, (((Kp.refl No w).alloc _).alloc _).alloc _, by omega⟩

set_option maxRecDepth 100000 in
set_option maxHeartbeats 1000000 in
theorem read_any (w : World) (base p : Nat) (ρ : Nat → Role) (d : DSt) (nw : Files) (s n : Nat) (vp : Value) (ps : List (Change × Value)) (name : ByteArray) (h : DkAt w base p ρ d nw s n vp ps) (hd : d.down = false) (hns : name.size ≤ maxLen) (hu : used nw ≤ 140737488355328) :
    Calls Tryz.prog 27 #[.pointer (some ⟨p, 0, none⟩), .string name] w fun e w' => ∃ v, e = .returned (.tuple #[v, .bool (fs.get nw (nm name)).isSome]) ∧ w'.ownsRow w.heap.size 5 1 v (old nw (nm name)).length ((old nw (nm name)).map B) ∧ Kp No w w' := by
  have c2 := h.c2
  have c4 := h.c4
  rw [hd] at c2
  have hol := get_len h.now.1 (nm name)
  obtain ⟨v, hrow, hlook⟩ := h.now.look hns
  have hlk := (hlook w (Kp.refl _ _)).2
  have hb := owns_bs hrow.1
  have HB := Hid_mk hb
  obtain ⟨a, cap, rfl, -, -, -⟩ := id hb
  have hl : (old nw (nm name)).length ≤ 140737488355328 := by unfold old; omega
  generalize (fs.get nw (nm name)).isSome = ok at *
  clear h hd hrow hlook hb hol hns hu
  go_enter Tryz.func27, Tryz.ntmps27
  go_wp2_with fail
  refine (clone_any w _ _ HB.out hl).mono ?_
  rintro e w1 ⟨v1, rfl, ho, hk⟩
  have HF := Hid_mk (And.intro ho hk)
  obtain ⟨a1, cap1, rfl, -, -, -⟩ := owns_bs ho
  clear ho hk
  go_wp2
  go_ret2
  exact ⟨_, rfl, HF.out.1, HF.out.2⟩

end Go.Proofs.YtmehneicdklfeaaGreat.dsk

namespace Go.Proofs.YtmehneicdklfeaaGreat.dsk
open Go.RowKit Go.Maps Go.Proofs.YtmehneicdklfeaaGreat.sum Go.Proofs.YtmehneicdklfeaaGreat.kept Go.Proofs.YtmehneicdklfeaaGreat.app Go.Proofs.YtmehneicdklfeaaGreat.writer Go.Proofs.YtmehneicdklfeaaGreat.clone Go.Proofs.YtmehneicdklfeaaGreat.unseal Go.Proofs.YtmehneicdklfeaaGreat.fs Go.Proofs.YtmehneicdklfeaaGreat.fsMem Go.Proofs.YtmehneicdklfeaaGreat.fsDo Go.Proofs.YtmehneicdklfeaaGreat.fsUsed Go.Proofs.YtmehneicdklfeaaGreat.turned
set_option linter.unusedVariables false

theorem Fr.of_p {ρ : Nat → Role} {w w1 : World} {p : Nat} (hk : Kp (fun k => k = p) w w1) (hp : ρ p = .disk) : Fr ρ w ρ w1 := ⟨hk.mono (fun k _ e => by rw [e, hp]; simp), fun _ _ h => h⟩

theorem stop_same (d : DSt) : (stopD d).room = d.room ∧ (stopD d).syn = d.syn ∧ (stopD d).cs = d.cs := by unfold stopD; split <;> (try split) <;> exact ⟨rfl, rfl, rfl⟩
theorem stop_ok {M : Nat} {d : DSt} (h : DOk M d) : DOk M (stopD d) := by
  obtain ⟨e1, e2, e3⟩ := stop_same d
  refine ⟨by rw [e2]; exact h.rising, by rw [e2, e3]; exact h.few, by rw [e2, e3]; exact h.small, by rw [e2, e3]; exact h.fit, by rw [e3]; exact h.names, by rw [e3]; exact h.sizes, by rw [e1]; exact h.room0, by rw [e1]; exact h.room1, ?_, ?_, by rw [e3]; exact h.plain⟩
  · unfold stopD
    have := h.fuse0
    split
    · exact this
    · split
      · simp only; omega
      · exact this
  · unfold stopD
    have := h.fuse1
    split
    · exact this
    · split
      · simp only; omega
      · exact this

set_option maxRecDepth 100000 in
set_option maxHeartbeats 2000000 in
theorem sync_any (w : World) (base p M : Nat) (ρ : Nat → Role) (d : DSt) (h : Dk w base p ρ d) (hok : DOk M d) (hM : M ≤ 1000000) (hstop : stopB d = false) :
    Calls Tryz.prog 18 #[.pointer (some ⟨p, 0, none⟩)] w (StPost base p ρ { stopD d with syn := d.now, cs := [] } w (.int .i64 0)) := by
  obtain ⟨s, n, vp, ps, h⟩ := h
  have hst := stops_any w base p ρ d d.now s n vp ps h hok.fuse0 hok.fuse1
  rw [hstop] at hst
  have hok2 := stop_ok hok
  obtain ⟨e1, e2, e3⟩ := stop_same d
  have hlenps : ps.length = d.cs.length := by rw [← h.cs, List.length_map]
  have hfin : ∀ w1, Kp (fun k => k = p) w w1 → DkAt w1 base p ρ (stopD d) d.now s n vp ps → Calls Tryz.prog 54 #[.pointer (some ⟨p, 0, none⟩), .int .i64 (ps.length : Int)] w1 (StPost base p ρ { stopD d with syn := d.now, cs := [] } w (.tuple #[])) := by
    intro w1 hk1 h1
    refine (settle_any w1 base p M ρ (stopD d) d.now s n vp ps ps.length h1 hok2 hM (Nat.le_refl _)).mono ?_
    rintro e w2 ⟨he, ρ2, h2, hfr, -⟩
    have e4 : all (stopD d).syn ((stopD d).cs.take ps.length) = d.now := by rw [e2, e3, hlenps, List.take_length]; rfl
    rw [e4] at h2
    exact ⟨he, ρ2, ⟨s, n, _, _, h2⟩, (Fr.of_p hk1 h.rp).trans hfr⟩
  have HSt := Hid_mk hst
  have HFin := Hid_mk hfin
  have hlp : ps.length ≤ 1000000 := by have := hok.few; omega
  clear hst hfin h hok hok2 e1 e2 e3 hlenps hstop
  go_enter Tryz.func18, Tryz.ntmps18
  go_wp2_with fail
  refine HSt.out.mono ?_
  rintro e w1 ⟨rfl, h1, hk1⟩
  have c5 := h1.c5
  have HC := Hid_mk (HFin.out w1 hk1 h1)
  obtain ⟨av, cv, rfl⟩ : ∃ a c, vp = .slice a ps.length c := by
    rcases owns_any h1.pend with ⟨rfl, hz⟩ | ⟨g, cap, rfl, -⟩
    · exact ⟨none, 0, by rw [hz]⟩
    · exact ⟨_, _, rfl⟩
  clear h1 hk1
  go_wp2_with fail
  refine HC.out.mono ?_
  rintro e w2 ⟨rfl, hex⟩
  have HEx := Hid_mk hex
  clear hex
  go_wp2
  go_ret
  exact ⟨rfl, HEx.out⟩

def remC (name : ByteArray) : Change := ⟨3, name, ⟨#[]⟩, [], 0⟩

set_option maxRecDepth 100000 in
set_option maxHeartbeats 2000000 in
theorem remove_any (w : World) (base p M : Nat) (ρ : Nat → Role) (d : DSt) (name : ByteArray) (h : Dk w base p ρ d) (hok : DOk M d) (hM : M ≤ 1000000) (hstop : stopB d = false) (hns : name.size ≤ maxLen) (hget : (fs.get d.now (nm name)).isSome = true) :
    Calls Tryz.prog 33 #[.pointer (some ⟨p, 0, none⟩), .string name] w (StPost base p ρ { stopD d with cs := d.cs ++ [remC name] } w (.int .i64 0)) := by
  obtain ⟨s, n, vp, ps, h⟩ := h
  have hst := stops_any w base p ρ d d.now s n vp ps h hok.fuse0 hok.fuse1
  rw [hstop] at hst
  obtain ⟨e1, e2, e3⟩ := stop_same d
  have hlenps : ps.length = d.cs.length := by rw [← h.cs, List.length_map]
  have hl1 : d.now.length ≤ M := Nat.le_trans (len_all hok.rising d.cs) hok.few
  have hfin : ∀ w1, Kp (fun k => k = p) w w1 → DkAt w1 base p ρ (stopD d) d.now s n vp ps → Calls Tryz.prog 48 #[.pointer (some ⟨p, 0, none⟩), chg (remC name) (.slice none 0 0)] w1 (StPost base p ρ { stopD d with cs := d.cs ++ [remC name] } w (.tuple #[])) := by
    intro w1 hk1 h1
    refine (change_any w1 base p ρ (stopD d) d.now s n vp ps (remC name) (.slice none 0 0) h1 ⟨by show (3 : Nat) < 4; omega, fun e => by cases e⟩ ⟨none, 0, rfl, Nat.le_refl _, Nat.zero_le _, fun h => absurd rfl h⟩ (fun x o m cc e => by cases e) hns
      (by show (0 : Nat) ≤ _; exact Nat.zero_le _) (by unfold maxLen; omega) (fun e => by cases e) (by have := hok.few; omega)).mono ?_
    rintro e w2 ⟨he, ρ2, s2, n2, vp2, ps2, h2, hfr⟩
    have e4 : doit d.now (remC name) = ({ stopD d with cs := d.cs ++ [remC name] } : DSt).now := by unfold DSt.now; simp only; rw [e2, all_snoc]
    rw [e3, e4] at h2
    exact ⟨he, ρ2, ⟨s2, n2, vp2, ps2, h2⟩, (Fr.of_p hk1 h.rp).trans hfr⟩
  have HSt := Hid_mk hst
  have HFin := Hid_mk hfin
  have HNs := Hid_mk hns
  clear hst hfin h hok e1 e2 e3 hlenps hstop hl1
  go_enter Tryz.func33, Tryz.ntmps33
  go_wp2_with fail
  refine HSt.out.mono ?_
  rintro e w1 ⟨rfl, h1, hk1⟩
  have c4 := h1.c4
  have HC := Hid_mk (HFin.out w1 hk1 h1)
  obtain ⟨v, -, hlook⟩ := h1.now.look HNs.out
  have hlk := (hlook w1 (Kp.refl _ _)).2
  rw [hget] at hlk
  unfold chg remC at HC
  simp only at HC
  clear h1 hk1 hlook
  go_wp2_with fail
  refine HC.out.mono ?_
  rintro e w2 ⟨rfl, hex⟩
  have HEx := Hid_mk hex
  clear hex
  go_wp2
  go_ret
  exact ⟨rfl, HEx.out⟩

end Go.Proofs.YtmehneicdklfeaaGreat.dsk

namespace Go.Proofs.YtmehneicdklfeaaGreat.dsk
open Go.RowKit Go.Maps Go.Proofs.YtmehneicdklfeaaGreat.sum Go.Proofs.YtmehneicdklfeaaGreat.kept Go.Proofs.YtmehneicdklfeaaGreat.app Go.Proofs.YtmehneicdklfeaaGreat.writer Go.Proofs.YtmehneicdklfeaaGreat.clone Go.Proofs.YtmehneicdklfeaaGreat.unseal Go.Proofs.YtmehneicdklfeaaGreat.fs Go.Proofs.YtmehneicdklfeaaGreat.fsMem Go.Proofs.YtmehneicdklfeaaGreat.fsDo Go.Proofs.YtmehneicdklfeaaGreat.fsUsed Go.Proofs.YtmehneicdklfeaaGreat.turned
set_option linter.unusedVariables false

theorem push_ok {M : Nat} {d : DSt} (h : DOk M d) (c : Change) (hf : c.fits d.now) (hnm : c.name.size ≤ maxLen ∧ c.to.size ≤ maxLen) (hs : c.size ≤ 9223372036854775807) (hp : c.kind ≠ 0 → c.bytes = []) (hb : c.bytes.length ≤ 8388608) :
    DOk (M + 1) { stopD d with cs := d.cs ++ [c] } := by
  have h2 := stop_ok h
  obtain ⟨e1, e2, e3⟩ := stop_same d
  have q1 := h.few
  have q2 := h.small
  refine ⟨h2.rising, ?_, ?_, ?_, ?_, ?_, h2.room0, h2.room1, h2.fuse0, h2.fuse1, ?_⟩
  · simp only [e2, List.length_append, List.length_cons, List.length_nil]; omega
  · simp only [e2, bytesOf_append, bytesOf]
    have e : (M + 1) * 8388608 = M * 8388608 + 8388608 := by omega
    omega
  · simp only [e2]; exact fitsAll_snoc h.fit hf
  · intro x hx
    simp only [List.mem_append, List.mem_cons, List.not_mem_nil, or_false] at hx
    rcases hx with hx | rfl
    · exact h.names x hx
    · exact hnm
  · intro x hx
    simp only [List.mem_append, List.mem_cons, List.not_mem_nil, or_false] at hx
    rcases hx with hx | rfl
    · exact h.sizes x hx
    · exact hs
  · intro x hx
    simp only [List.mem_append, List.mem_cons, List.not_mem_nil, or_false] at hx
    rcases hx with hx | rfl
    · exact h.plain x hx
    · exact hp

theorem append_ok {M : Nat} {d : DSt} (h : DOk M d) {name : ByteArray} {bs : List UInt8} (hn : nameB name = true) (hb : bs.length ≤ 8388608) : DOk (M + 1) { stopD d with cs := d.cs ++ [appC name bs] } := by
  refine push_ok h (appC name bs) ⟨by show (0 : Nat) < 4; omega, fun e => by cases e⟩ ⟨?_, by show (0 : Nat) ≤ _; exact Nat.zero_le _⟩ (by show (0 : Nat) ≤ _; exact Nat.zero_le _) (fun e => absurd rfl e) hb
  simp [nameB] at hn
  show name.size ≤ _
  unfold maxLen; omega

theorem remove_ok {M : Nat} {d : DSt} (h : DOk M d) {name : ByteArray} (hn : name.size ≤ maxLen) : DOk (M + 1) { stopD d with cs := d.cs ++ [remC name] } :=
  push_ok h (remC name) ⟨by show (3 : Nat) < 4; omega, fun e => by cases e⟩ ⟨hn, by show (0 : Nat) ≤ _; exact Nat.zero_le _⟩ (by show (0 : Nat) ≤ _; exact Nat.zero_le _) (fun _ => rfl) (by show (0 : Nat) ≤ _; exact Nat.zero_le _)

theorem sync_ok {M : Nat} {d : DSt} (h : DOk M d) : DOk M { stopD d with syn := d.now, cs := [] } := by
  have h2 := stop_ok h
  have q1 := h.few
  have q2 := h.small
  have q3 := len_all h.rising d.cs
  have q4 := used_all h.rising d.cs
  refine ⟨rising_all h.rising _, ?_, ?_, trivial, (fun c hc => by cases hc), (fun c hc => by cases hc), h2.room0, h2.room1, h2.fuse0, h2.fuse1, (fun c hc => by cases hc)⟩
  · simp only [DSt.now, List.length_nil]; omega
  · simp only [DSt.now, bytesOf]; omega

theorem append_anyE (w : World) (base p M : Nat) (ρ : Nat → Role) (d : DSt) (name : ByteArray) (vb : Value) (bs : List UInt8) (h : Dk w base p ρ d) (hok : DOk M d) (hM : M ≤ 1000000) (hstop : stopB d = false) (hname : nameB name = true) (hb : Bs w vb bs)
    (hvo : bs ≠ [] → ∀ x o m c, vb = .slice (some ⟨x, o, none⟩) m c → ρ x = .other) (hroom : (used d.now : Int) + (bs.length : Int) ≤ d.room) (hfew : d.now.length < 64) :
    Calls Tryz.prog 16 #[.pointer (some ⟨p, 0, none⟩), .string name, vb] w (StPost base p ρ { stopD d with cs := d.cs ++ [appC name bs] } w (.int .i64 0)) := by
  obtain ⟨s, n, vp, ps, h⟩ := h
  cases hg : (fs.get d.now (nm name)).isSome with
  | true => exact append_there w base p M ρ d d.now s n vp ps name vb bs h hok hM rfl hstop hname hb hvo hroom hg
  | false => exact append_new w base p M ρ d d.now s n vp ps name vb bs h hok hM rfl hstop hname hb hvo hroom hg hfew

theorem append_any (w : World) (base p M : Nat) (ρ : Nat → Role) (d : DSt) (name : ByteArray) (vb : Value) (bs : List UInt8) (h : Dk w base p ρ d) (hok : DOk M d) (hM : M ≤ 1000000) (hstop : stopB d = false) (hname : nameB name = true) (hb : Bs w vb bs)
    (hvo : ∀ x o m c, vb = .slice (some ⟨x, o, none⟩) m c → ρ x = .other) (hroom : (used d.now : Int) + (bs.length : Int) ≤ d.room) (hfew : d.now.length < 64) :
    Calls Tryz.prog 16 #[.pointer (some ⟨p, 0, none⟩), .string name, vb] w (StPost base p ρ { stopD d with cs := d.cs ++ [appC name bs] } w (.int .i64 0)) :=
  append_anyE w base p M ρ d name vb bs h hok hM hstop hname hb (fun _ => hvo) hroom hfew

theorem Dk.hi {w : World} {base p : Nat} {ρ : Nat → Role} {d : DSt} (h : Dk w base p ρ d) {k : Nat} (hk : w.heap.size ≤ k) : ρ k = .other := by
  obtain ⟨s, n, vp, ps, h⟩ := h; exact h.hi k hk

/-- what a call on a disk of ours did is nothing to the world that was there before the disk -/
theorem Dk.out {w w1 w2 : World} {base p : Nat} {ρ ρ2 : Nat → Role} {d : DSt} (h : Dk w1 base p ρ d) (hb : w.heap.size ≤ base) (hk : Kp No w w1) (hf : Fr ρ w1 ρ2 w2) : Kp No w w2 := by
  obtain ⟨s, n, vp, ps, h⟩ := h
  refine hk.trans hf.1 fun k hk2 e => ?_
  have := h.low k e
  omega

end Go.Proofs.YtmehneicdklfeaaGreat.dsk

namespace Go.Proofs.YtmehneicdklfeaaGreat.dsk
open Go.RowKit Go.Maps Go.Proofs.YtmehneicdklfeaaGreat.sum Go.Proofs.YtmehneicdklfeaaGreat.kept Go.Proofs.YtmehneicdklfeaaGreat.app Go.Proofs.YtmehneicdklfeaaGreat.writer Go.Proofs.YtmehneicdklfeaaGreat.clone Go.Proofs.YtmehneicdklfeaaGreat.unseal Go.Proofs.YtmehneicdklfeaaGreat.fs Go.Proofs.YtmehneicdklfeaaGreat.fsMem Go.Proofs.YtmehneicdklfeaaGreat.fsDo Go.Proofs.YtmehneicdklfeaaGreat.fsUsed Go.Proofs.YtmehneicdklfeaaGreat.turned
set_option linter.unusedVariables false

set_option maxRecDepth 100000 in
set_option maxHeartbeats 1000000 in
theorem new_no (w : World) (room : Int) (hr0 : roomB room = false) : Calls Tryz.prog 15 #[.int .i64 room] w fun e w' => e = .returned (.tuple #[.pointer none, .int .i64 1]) ∧ w = w' := by
  have hr := fun w => room_any w room
  rw [hr0] at hr
  have HR := fun w => Hid_mk (hr w)
  clear hr hr0
  go_enter Tryz.func15, Tryz.ntmps15
  go_wp2_with fail
  with_reducible refine (HR _).out.mono ?_
  rintro e w' ⟨rfl, rfl⟩
  go_wp2
  go_ret2
  exact ⟨rfl, rfl⟩

set_option maxRecDepth 100000 in
set_option maxHeartbeats 1000000 in
theorem append_down (w : World) (base p M : Nat) (ρ : Nat → Role) (d : DSt) (name : ByteArray) (vb : Value) (h : Dk w base p ρ d) (hok : DOk M d) (hstop : stopB d = true) :
    Calls Tryz.prog 16 #[.pointer (some ⟨p, 0, none⟩), .string name, vb] w (StPost base p ρ (stopD d) w (.int .i64 3)) := by
  obtain ⟨s, n, vp, ps, h⟩ := h
  have hst := stops_any w base p ρ d d.now s n vp ps h hok.fuse0 hok.fuse1
  rw [hstop] at hst
  obtain ⟨e1, e2, e3⟩ := stop_same d
  have hnow : (stopD d).now = d.now := by unfold DSt.now; rw [e2, e3]
  have hfin : ∀ w1, DkAt w1 base p ρ (stopD d) d.now s n vp ps → Kp (fun k => k = p) w w1 → ∃ ρ', Dk w1 base p ρ' (stopD d) ∧ Fr ρ w ρ' w1 := by
    intro w1 h1 hk1
    rw [← hnow] at h1
    exact ⟨ρ, ⟨s, n, vp, ps, h1⟩, Fr.of_p hk1 h.rp⟩
  have HSt := Hid_mk hst
  have HFin := Hid_mk hfin
  clear hst hfin h hok hstop e1 e2 e3 hnow
  go_enter Tryz.func16, Tryz.ntmps16
  go_wp2_with fail
  with_reducible refine HSt.out.mono ?_
  rintro e w1 ⟨rfl, h1, hk1⟩
  have HF := Hid_mk (HFin.out w1 h1 hk1)
  clear h1 hk1
  go_wp2
  go_ret
  exact ⟨rfl, HF.out⟩

end Go.Proofs.YtmehneicdklfeaaGreat.dsk

namespace Go.Proofs.YtmehneicdklfeaaGreat.dsk
open Go.RowKit Go.Maps Go.Proofs.YtmehneicdklfeaaGreat.sum Go.Proofs.YtmehneicdklfeaaGreat.kept Go.Proofs.YtmehneicdklfeaaGreat.app Go.Proofs.YtmehneicdklfeaaGreat.writer Go.Proofs.YtmehneicdklfeaaGreat.clone Go.Proofs.YtmehneicdklfeaaGreat.fs Go.Proofs.YtmehneicdklfeaaGreat.fsMem Go.Proofs.YtmehneicdklfeaaGreat.fsDo Go.Proofs.YtmehneicdklfeaaGreat.fsUsed Go.Proofs.YtmehneicdklfeaaGreat.turned
set_option linter.unusedVariables false

set_option maxRecDepth 100000 in
set_option maxHeartbeats 1000000 in
theorem within_any (w : World) (x m : Int) (hm : 0 ≤ m) (hm2 : m ≤ 1000000000000000) :
    Calls Tryz.prog 55 #[.int .i64 x, .int .i64 m] w fun e w' => e = .returned (.int .i64 (x % (m + 1))) ∧ w = w' := by
  obtain ⟨h1, h2, h3, h4⟩ := tmod_pos x (m + 1) (by omega)
  obtain ⟨t, ht⟩ : ∃ t, x.tmod (m + 1) = t := ⟨_, rfl⟩
  rw [ht] at h1 h2 h3 h4
  have hfin : (t + (m + 1)) % (m + 1) = x % (m + 1) := by
    by_cases h : 0 ≤ t
    · rw [h3 h]; rw [Int.add_emod_right]; exact Int.emod_emod_of_dvd x (Int.dvd_refl _)
    · rw [h4 (by omega)]; exact Int.emod_emod_of_dvd x (Int.dvd_refl _)
  have hb := Int.emod_lt_of_pos x (show 0 < m + 1 by omega)
  have hb0 := Int.emod_nonneg x (show m + 1 ≠ 0 by omega)
  have HF := Hid_mk hfin
  have hne : ¬ m + 1 = 0 := by omega
  have hne1 : ¬ m + 1 = -1 := by omega
  clear h3 h4 hfin
  go_enter Tryz.func55, Tryz.ntmps55
  go_wp2
  go_ret
  rw [HF.out]
  exact ⟨rfl, rfl⟩

end Go.Proofs.YtmehneicdklfeaaGreat.dsk

namespace Go.Proofs.YtmehneicdklfeaaGreat.dsk
open Go.RowKit Go.Maps Go.Proofs.YtmehneicdklfeaaGreat.sum Go.Proofs.YtmehneicdklfeaaGreat.kept Go.Proofs.YtmehneicdklfeaaGreat.app Go.Proofs.YtmehneicdklfeaaGreat.writer Go.Proofs.YtmehneicdklfeaaGreat.clone Go.Proofs.YtmehneicdklfeaaGreat.unseal Go.Proofs.YtmehneicdklfeaaGreat.fs Go.Proofs.YtmehneicdklfeaaGreat.fsMem Go.Proofs.YtmehneicdklfeaaGreat.fsDo Go.Proofs.YtmehneicdklfeaaGreat.fsUsed Go.Proofs.YtmehneicdklfeaaGreat.turned
set_option linter.unusedVariables false

/-- so many bytes of it -/
def tornN (c : Change) (torn : Int) : Nat := if c.bytes.length = 0 then 0 else (torn % (c.bytes.length : Int)).toNat
def tearF (es : Files) (c : Change) (torn : Int) : Files := if tornN c torn = 0 then es else doit es { c with bytes := c.bytes.take (tornN c torn) }

theorem tornN_lt (c : Change) (torn : Int) (h : c.bytes.length ≠ 0) : tornN c torn < c.bytes.length ∧ torn % (c.bytes.length : Int) = (tornN c torn : Int) := by
  unfold tornN
  rw [if_neg h]
  have h1 := Int.emod_nonneg torn (show (c.bytes.length : Int) ≠ 0 by omega)
  have h2 := Int.emod_lt_of_pos torn (show (0 : Int) < (c.bytes.length : Int) by omega)
  omega

set_option maxRecDepth 100000 in
set_option maxHeartbeats 1000000 in
theorem tear_any (w : World) (base b : Nat) (ρ : Nat → Option Name) (es : Files) (c : Change) (vb : Value) (torn : Int) (h : FM w base b ρ es) (hkind : c.bytes ≠ [] → c.kind = 0) (hb : Bs w vb c.bytes) (hs : c.name.size ≤ maxLen) (hst : c.to.size ≤ maxLen) (hl : es.length < maxLen)
    (hlen : (old es (nm c.name)).length + c.bytes.length ≤ 140737488355328) :
    Calls Tryz.prog 56 #[.map (some b), chg c vb, .int .i64 torn] w (DoPost base b ρ w (tearF es c torn)) := by
  obtain ⟨ab, cb, rfl, hc1, hc2, -⟩ := id hb
  unfold maxLen at hc2
  by_cases h0 : c.bytes.length = 0
  · have hfin : DoPost base b ρ w (tearF es c torn) (.returned (.tuple #[])) (w.alloc (.cells #[.int .i64 (c.kind : Int), .string c.name, .string c.to, .slice ab c.bytes.length cb, .int .i64 (c.size : Int)] 80)) := by
      refine ⟨rfl, ρ, ?_, ((Kp.refl _ w).alloc _), fun _ _ h => h⟩
      unfold tearF tornN
      rw [if_pos h0, if_pos rfl]
      exact fm_alloc h _
    have HF := Hid_mk hfin
    rw [h0] at *
    unfold chg
    clear hfin h hb hkind hlen
    go_enter Tryz.func56, Tryz.ntmps56
    go_wp2
    go_end0
    exact HF.out
  · obtain ⟨ht1, ht2⟩ := tornN_lt c torn h0
    have hk0 := hkind (fun e => h0 (by rw [e]; rfl))
    obtain ⟨L, hL⟩ : ∃ L, c.bytes.length = L := ⟨_, rfl⟩
    obtain ⟨t, ht⟩ : ∃ t, tornN c torn = t := ⟨_, rfl⟩
    rw [hL] at ht1 ht2 hc1 h0 hlen hb ⊢
    rw [ht] at ht1 ht2
    have hwi := fun w => within_any w torn ((L : Int) - 1) (by omega) (by omega)
    rw [show (L : Int) - 1 + 1 = (L : Int) by omega, ht2] at hwi
    have HWi := fun w => Hid_mk (hwi w)
    have hti : (t : Int) ≤ (cb : Int) := by omega
    have ht0 : (0 : Int) ≤ (t : Int) := by omega
    have hLpos : ¬ (L : Int) = 0 := by omega
    have hLb : ((L : Int) == 0) = false := by simp; omega
    have hLmax : (L : Int) ≤ 140737488355328 := by omega
    have hL1 : (1 : Int) ≤ (L : Int) := by omega
    have hwr : IntKind.i64.wrap ((L : Int) - 1) = (L : Int) - 1 := IntWalk.i64_in _ (by omega)
    have hkz : ((c.kind : Nat) : Int) = 0 := by omega
    obtain ⟨W1, hW1⟩ : ∃ W1, W1 = (w.alloc (.cells #[.int .i64 0, .string c.name, .string c.to, .slice ab t cb, .int .i64 (c.size : Int)] 80)).drew := ⟨_, rfl⟩
    have k1 : Kp No w W1 := by rw [hW1]; exact ((Kp.refl No w).alloc _).drew
    have h1 : FM W1 base b ρ es := by rw [hW1]; exact fm_drew (fm_alloc h _)
    by_cases htz : t = 0
    · have hfin : DoPost base b ρ w (tearF es c torn) (.returned (.tuple #[])) W1 := by
        refine ⟨rfl, ρ, ?_, k1.to, fun _ _ h => h⟩
        unfold tearF
        rw [ht, if_pos htz]
        exact h1
      have HF := Hid_mk hfin
      have hgt : ¬ (0 : Int) < (t : Int) := by omega
      clear hfin h hb hkind hlen h1 k1 hwi ht ht1 ht2 hs hst hl htz
      unfold chg
      rw [hkz]
      clear hkz hk0
      subst hW1
      go_enter Tryz.func56, Tryz.ntmps56
      go_wp2
      go_region_with (go_at_call 55; (with_reducible refine (HWi _).out.mono ?_); rintro e w' ⟨rfl, rfl⟩)
      all_goals
        go_wp2
        go_end0
        exact HF.out
    · have hlt : ((c.bytes.take t).length) = t := by rw [List.length_take]; omega
      have hbt := bs_take hb t (by omega)
      have hd := do_append W1 base b ρ es { c with bytes := c.bytes.take t } (.slice ab t cb) h1 hk0 (bs_no hbt k1) hs hl (by simp only; rw [hlt]; omega)
      have hfin : Calls Tryz.prog 67 #[.map (some b), chg { c with bytes := c.bytes.take t } (.slice ab t cb)] W1 (DoPost base b ρ w (tearF es c torn)) := by
        refine hd.mono ?_
        rintro e w2 ⟨he, ρ2, hfm, hkp, hsub⟩
        refine ⟨he, ρ2, ?_, k1.to.trans hkp fun _ _ e => e, fun k hk hh => hsub k (by have := k1.size; omega) hh⟩
        unfold tearF
        rw [ht, if_neg htz]
        exact hfm
      have HF := Hid_mk hfin
      have hgt : (0 : Int) < (t : Int) := by omega
      clear hfin hd hbt hlt h hb hkind hlen h1 k1 hwi ht ht1 ht2 hs hst hl htz
      unfold chg at HF ⊢
      simp only at HF
      rw [hkz] at HF ⊢
      clear hkz hk0
      subst hW1
      go_enter Tryz.func56, Tryz.ntmps56
      go_wp2
      go_region_with (go_at_call 55; (with_reducible refine (HWi _).out.mono ?_); rintro e w' ⟨rfl, rfl⟩)
      all_goals
        go_wp2_with (go_at_call 67; (with_reducible refine HF.out.mono ?_); rintro e w2 hpost; have he := hpost.1; have HP := Hid_mk hpost; subst he; clear hpost)
        go_end0
        exact HP.out

end Go.Proofs.YtmehneicdklfeaaGreat.dsk

namespace Go.Proofs.YtmehneicdklfeaaGreat.fsUsed
open Go.RowKit Go.Maps Go.Proofs.YtmehneicdklfeaaGreat.sum Go.Proofs.YtmehneicdklfeaaGreat.kept Go.Proofs.YtmehneicdklfeaaGreat.app Go.Proofs.YtmehneicdklfeaaGreat.writer Go.Proofs.YtmehneicdklfeaaGreat.clone Go.Proofs.YtmehneicdklfeaaGreat.fs Go.Proofs.YtmehneicdklfeaaGreat.fsMem Go.Proofs.YtmehneicdklfeaaGreat.fsDo
set_option linter.unusedVariables false

theorem run_makeMap_n (n : Nat) (w : World) : (Instr.makeMap 73 (some (.int .i64 (n : Int)))).run Tryz.prog w = .ok (.map (some w.heap.size)) (w.alloc (.map #[] 0)) := by
  simp [Instr.makeMap, run_underlying Tryz.underlying73, asInt, newObj, Result.andThen]
  rfl

theorem kp_grown {w w' : World} {b : Nat} (h : Kp (fun k => k = b) w w') : w.grownBy w' (some b) := ⟨h.os, h.tape, h.output, h.size, fun k hk hn => h.block k hk fun e => hn (by rw [e])⟩
theorem kp_grown0 {w w' : World} (h : Kp No w w') : w.grownBy w' none := ⟨h.os, h.tape, h.output, h.size, fun k hk _ => h.block k hk id⟩

def CRel (w : World) (b : Nat) (val : Name → Value) (es : Files) (wr : World) : Prop :=
  ∃ left cnt ρ', wr.ranges Tryz.prog 9 raw b (w.heap.size + 1) es.length (dat val es) left cnt ∧ FM wr w.heap.size w.heap.size ρ' (gone es left) ∧ (∀ k, (ρ' k).isSome = true → w.heap.size ≤ k) ∧ ρ' (w.heap.size + 1) = none ∧ Kp No w wr

/-- A copy: a new map of new rows. -/
def CopyPost (w : World) (es : Files) (e : Ending) (w' : World) : Prop :=
  ∃ c ρ', e = .returned (.map (some c)) ∧ FM w' w.heap.size c ρ' es ∧ (∀ k, (ρ' k).isSome = true → w.heap.size ≤ k) ∧ Kp No w w'

set_option maxRecDepth 100000 in
set_option maxHeartbeats 4000000 in
theorem copied_any (w : World) (base b : Nat) (ρ : Nat → Option Name) (es : Files) (h : FM w base b ρ es) (hu : used es ≤ 140737488355328) (hl : es.length < maxLen) :
    Calls Tryz.prog 57 #[.map (some b)] w (CopyPost w es) := by
  obtain ⟨h1, h2, h3, val, h4, h5⟩ := h
  have hlt := h4.lt
  have HR := Hid_mk h1
  have H5 := Hid_mk h5
  have H4 := Hid_mk h4
  have HL := Hid_mk hl
  have hmm := run_makeMap_n
  have HM0 : Hid ((w.alloc (.map #[] 0)).ownsMap Tryz.prog 9 raw w.heap.size 0 (.map [])) := Hid_mk (World.ownsMap_made w _ _ _)
  clear h5 h2 h3 hl
  go_enter Tryz.func57, Tryz.ntmps57
  go_wp2_with (first
    | (at_len; refine wpList_len_own _ rfl _ 73 rfl 9 29 Tryz.underlying73 _ b es.length _ rfl h4 ?_)
    | (at_range; refine wpList_range_own _ rfl _ 73 rfl 9 29 law Tryz.underlying73 _ b es.length _ rfl (H4.out.alloc _) ?_; intro w0 hrg0 hg0 hs0))
  go_frame
  have HK0 : Hid (Kp No w w0) := Hid_mk (((Kp.refl No w).alloc (.map #[] 0)).trans' ⟨hg0.os, hg0.tape, hg0.output, hg0.size, fun k hk _ => hg0.block k hk (by simp)⟩)
  have hsa : (w.alloc (.map #[] 0)).heap.size = w.heap.size + 1 := by simp
  rw [hsa] at hrg0 hs0 ⊢
  have HFM0 : Hid (FM w0 w.heap.size w.heap.size (fun _ => none) []) := Hid_mk
    ⟨rising_nil, rfl, Nat.le_refl _, val, HM0.out.kept hg0 (by simp), fun e he => by cases he⟩
  have HG0 := Hid_mk hrg0
  clear hrg0 hg0 hs0 h4 hmm
  go_loopw [5] (fun u wr => CRel w b val es wr) (fun _ wr => wr.rangeLeft b (w.heap.size + 1))
  case atStart =>
    refine ⟨_, _, fun _ => none, HG0.out, ?_, fun k hk => by simp at hk, rfl, HK0.out⟩
    rw [gone_start (fun e he => by rw [dat_has, (get_some HR.out).2 (show (e.1, e.2) ∈ es from he)]; rfl)]
    exact HFM0.out
  case round =>
    obtain ⟨left, cnt, ρ', hrg, hfm, hnew, hrr, hk⟩ := hrel
    have HK := Hid_mk hk
    have HRG := Hid_mk hrg
    have HFM := Hid_mk hfm
    have HNew := Hid_mk hnew
    have hsz := hk.size
    clear hk hrg hfm hnew
    go_wp2_with (at_next; refine wpList_next_ranges _ rfl _ rfl 9 law raw Value.string (fun v : Value => v) (fun key kl hk => key_inv hk) (fun v y _ => ⟨v, rfl⟩) b (w.heap.size + 1) es.length (dat val es) left cnt rfl HRG.out ?_ ?_)
    · intro _ hl0
      have hfin : CopyPost w es (.returned (.map (some w.heap.size))) wr := ⟨w.heap.size, ρ', rfl, by have := HFM.out; rwa [gone_end hl0] at this, HNew.out, HK.out⟩
      have HF := Hid_mk hfin
      clear hfin
      go_wp2
      go_ret
      exact HF.out
    · intro x c kl ya yb w1 cnt1 hkx hlx hy hat hrg1 hlt1 hg1 hs1 hen
      obtain ⟨rfl, hxs⟩ := key_inv2 hkx
      obtain ⟨rfl, bs, hm⟩ := entry_of (y := (ya, yb)) HR.out hy hat
      have hrow := H5.out _ hm (by simp)
      have hlen : bs.length ≤ 140737488355328 := by
        have := get_len HR.out (nm x)
        rw [(get_some HR.out).2 hm] at this
        simp at this
        omega
      have kg1 : Kp (fun k => k = w.heap.size + 1) wr w1 := (Kp.refl _ wr).grown hg1 fun k hk e => (Option.some.inj e).symm
      have hk1 : Kp No w w1 := HK.out.trans kg1 fun i hi e => by omega
      have hbs1 := bs_no (owns_bs hrow.1) hk1
      have hrlt := hrg1.lt
      have hfm1 : FM w1 w.heap.size w.heap.size ρ' (gone es left) := HFM.out.kept kg1 (fun k hk e => ⟨by omega, fun n hn => by
        rw [e, hrr] at hn; cases hn⟩) fun _ _ => rfl
      have HFM1 := Hid_mk hfm1
      have HRG1 := Hid_mk hrg1
      have HK1 := Hid_mk hk1
      have HMem := Hid_mk hm
      have hs1' := hk1.size
      obtain ⟨a, cap, hv, -, -, -⟩ := id hbs1
      simp only at hv
      rw [hv] at hen hbs1 ⊢
      have HBs := Hid_mk hbs1
      have HM : Hid (w1.rangeLeft b (w.heap.size + 1) < wr.rangeLeft b (w.heap.size + 1)) := Hid_mk (by rw [hrg1.left_eq, HRG.out.left_eq]; exact hlt1)
      have HLx := Hid_mk hlx
      clear hrow hm hat hy hg1 hkx hk1 hv hbs1 hfm1 hrg1 kg1 hlx
      have hclone := clone_any w1 _ bs HBs.out hlen
      have HClone := Hid_mk hclone
      clear hclone
      go_wp2_with fail
      refine HClone.out.mono ?_
      rintro e w2 ⟨v2, rfl, ho2, hk2⟩
      obtain ⟨ρ1, hρ1⟩ : ∃ ρ1 : Nat → Option Name, ρ1 = fun k => if some k = v2.ownBlock then some (nm x) else ρ' k := ⟨_, rfl⟩
      have hold : ∀ k, k < w1.heap.size → ρ1 k = ρ' k := fun k hk => by
        rw [hρ1]
        simp only
        rw [if_neg]
        intro e
        have := (ho2.lt k e.symm).1
        omega
      have hfm2 : FMx (some (nm x)) w2 w.heap.size w.heap.size ρ1 (gone es left) := (FMx.weak HFM1.out (nm x)).kept hk2 (fun _ _ x => x.elim) hold
      have hrow2 : RowOf w2 w.heap.size ρ1 v2 (nm x) bs := ⟨owns_base ho2 (by omega), fun g hg => by rw [hρ1]; simp [hg]⟩
      have hl2 : (gone es left).length < maxLen := Nat.lt_of_le_of_lt (List.length_filter_le _ _) HL.out
      obtain ⟨w3, hr3, hfm3, hk3⟩ := hfm2.store hxs hl2 hrow2
      rw [← gone_step HR.out HMem.out HLx.out] at hfm3
      have hrg3 := (HRG1.out.kept (kp_grown0 hk2) (by simp) (by simp)).kept (kp_grown hk3) (fun e => by have := Option.some.inj e; omega) (fun e => by have := Option.some.inj e; omega)
      have hk13 : Kp No w w3 := (HK1.out.trans' hk2).trans hk3 fun i hi e => by omega
      have hfin : CRel w b val es w3 := by
        refine ⟨_, _, ρ1, hrg3, hfm3, fun k hk => ?_, ?_, hk13⟩
        · rw [hρ1] at hk
          simp only at hk
          split at hk
          · rename_i e; have := (ho2.lt k e.symm).1; omega
          · exact HNew.out k hk
        · rw [hold _ (by omega)]; exact hrr
      have HF := Hid_mk hfin
      have HM3 : Hid (w3.rangeLeft b (w.heap.size + 1) < wr.rangeLeft b (w.heap.size + 1)) := Hid_mk (by rw [hrg3.left_eq, ← HRG1.out.left_eq]; exact HM.out)
      rcases owns_any ho2 with ⟨rfl, _⟩ | ⟨g, cp, rfl, -, -, -, -⟩
      · clear hfin hk13 hrg3 hfm3 hk3 hl2 hrow2 hfm2 hold hρ1 ho2 hk2
        go_wp2
        go_roundw
        case rel => exact HF.out
        case measure => exact HM3.out
      · clear hfin hk13 hrg3 hfm3 hk3 hl2 hrow2 hfm2 hold hρ1 ho2 hk2
        go_wp2
        go_roundw
        case rel => exact HF.out
        case measure => exact HM3.out

end Go.Proofs.YtmehneicdklfeaaGreat.fsUsed
