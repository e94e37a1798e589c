/- disk.New, and the Disk's calls that only tell. -/
import Derived.Test.YtomckoeobkfklaaDoorDiskAppend
namespace Go.Proofs.YtomckoeobkfklaaDoor.dsk
open Go.RowKit Go.Maps Go.Proofs.YtomckoeobkfklaaDoor.sum Go.Proofs.YtomckoeobkfklaaDoor.kept Go.Proofs.YtomckoeobkfklaaDoor.app Go.Proofs.YtomckoeobkfklaaDoor.writer Go.Proofs.YtomckoeobkfklaaDoor.clone Go.Proofs.YtomckoeobkfklaaDoor.unseal Go.Proofs.YtomckoeobkfklaaDoor.fs Go.Proofs.YtomckoeobkfklaaDoor.fsMem Go.Proofs.YtomckoeobkfklaaDoor.fsDo Go.Proofs.YtomckoeobkfklaaDoor.fsUsed Go.Proofs.YtomckoeobkfklaaDoor.turned
set_option linter.unusedVariables false

def newD (room : Int) : DSt := ⟨room, -1, false, [], []⟩
theorem new_ok (room : Int) (h0 : 0 ≤ room) (h1 : room ≤ 8388608) : DOk 0 (newD room) :=
  ⟨rising_nil, Nat.le_refl _, by simp [newD, used, bytesOf], trivial, (fun c hc => by cases hc), (fun c hc => by cases hc), h0, h1, by simp [newD], by simp [newD], (fun c hc => by cases hc)⟩

theorem new_mem (w : World) (room : Int) : Dk (((w.alloc (.map #[] 0)).alloc (.map #[] 0)).alloc (.cells #[.int .i64 room, .int .i64 (-1), .bool false, .map (some w.heap.size), .map (some (w.heap.size + 1)), .slice none 0 0] 44)) w.heap.size (w.heap.size + 2)
    (fun k => if k = w.heap.size then .smap else if k = w.heap.size + 1 then .nmap else if k = w.heap.size + 2 then .disk else .other) (newD room) := by
  have e1 : (w.alloc (.map #[] 0)).heap.size = w.heap.size + 1 := by simp
  have e2 : ((w.alloc (.map #[] 0)).alloc (.map #[] 0)).heap.size = w.heap.size + 2 := by simp
  have m1 := World.ownsMap_made w Tryd.prog 9 raw
  have m2 := World.ownsMap_made (w.alloc (.map #[] 0)) Tryd.prog 9 raw
  rw [e1] at m2
  have hc : ∀ (W2 : World) (o : Nat) (cs : Array Value) (v : Value), cs[o]? = some v → W2.heap.size = w.heap.size + 2 → (W2.alloc (.cells cs 44)).cell? ⟨w.heap.size + 2, o, none⟩ = some v := by
    intro W2 o cs v hv hs
    rw [← hs]
    simp [hv]
  have hf : ∀ (W2 : World) (cs : Array Value) (o : Nat), W2.heap.size = w.heap.size + 2 → (W2.alloc (.cells cs 44)).frozen? ⟨w.heap.size + 2, o, none⟩ = false := by
    intro W2 cs o hs
    rw [← hs]
    simp
  refine ⟨w.heap.size, w.heap.size + 1, .slice none 0 0, [], ⟨hc _ _ _ _ rfl e2, hc _ _ _ _ rfl e2, hc _ _ _ _ rfl e2, hc _ _ _ _ rfl e2, hc _ _ _ _ rfl e2, hc _ _ _ _ rfl e2, fun o => hf _ _ _ e2, ?_, ?_, rfl, World.ownsRow_nil _ _ _ _, (fun q hq => by cases hq), ?_, ?_, ?_, (fun g hg => by simp [Value.ownBlock] at hg), by omega, fun k hk => ?_, fun k hk => ?_⟩⟩
  · exact ⟨rising_nil, sOf_none (by simp), Nat.le_refl _, fun _ => .nilIface, (m1.alloc _).alloc _, fun e he => by cases he⟩
  · exact ⟨rising_nil, nOf_none (by simp), by omega, fun _ => .nilIface, m2.alloc _, fun e he => by cases he⟩
  · simp
  · simp
  · simp
  · (try simp only at hk)
    split at hk
    · omega
    · split at hk
      · omega
      · split at hk
        · omega
        · exact absurd rfl hk
  · simp only [World.size_alloc] at hk
    (try simp only)
    rw [if_neg (by omega), if_neg (by omega), if_neg (by omega)]

set_option maxRecDepth 100000 in
set_option maxHeartbeats 1000000 in
theorem new_any (w : World) (room : Int) (h0 : 0 ≤ room) (h1 : room ≤ 8388608) : Calls Tryd.prog 4 #[.int .i64 room] w fun e w' => ∃ p ρ, e = .returned (.tuple #[.pointer (some ⟨p, 0, none⟩), .int .i64 0]) ∧ Dk w' w.heap.size p ρ (newD room) ∧ Kp No w w' ∧ w.heap.size ≤ p := by
  have hr := fun w => room_any w room
  have e : roomB room = true := by simp [roomB, h0, h1]
  rw [e] at hr
  have HR := fun w => Hid_mk (hr w)
  have hmm := @run_makeMap Tryd.prog
  have HF := Hid_mk (new_mem w room)
  clear hr e
  go_enter Tryd.func4, Tryd.ntmps4
  go_wp2_with fail
  refine (HR _).out.mono ?_
  rintro e w' ⟨rfl, rfl⟩
  go_wp2
  go_ret2
  exact ⟨_, _, rfl, HF.out, (((Kp.refl No w).alloc _).alloc _).alloc _, by omega⟩

set_option maxRecDepth 100000 in
set_option maxHeartbeats 1000000 in
theorem read_any (w : World) (base p : Nat) (ρ : Nat → Role) (d : DSt) (nw : Files) (s n : Nat) (vp : Value) (ps : List (Change × Value)) (name : ByteArray) (h : DkAt w base p ρ d nw s n vp ps) (hd : d.down = false) (hns : name.size ≤ maxLen) (hu : used nw ≤ 140737488355328) :
    Calls Tryd.prog 13 #[.pointer (some ⟨p, 0, none⟩), .string name] w fun e w' => ∃ v, e = .returned (.tuple #[v, .bool (fs.get nw (nm name)).isSome]) ∧ w'.ownsRow w.heap.size 5 1 v (old nw (nm name)).length ((old nw (nm name)).map B) ∧ Kp No w w' := by
  have c2 := h.c2
  have c4 := h.c4
  rw [hd] at c2
  have hol := get_len h.now.1 (nm name)
  obtain ⟨v, hrow, hlook⟩ := h.now.look hns
  have hlk := (hlook w (Kp.refl _ _)).2
  have hb := owns_bs hrow.1
  have HB := Hid_mk hb
  obtain ⟨a, cap, rfl, -, -, -⟩ := id hb
  have hl : (old nw (nm name)).length ≤ 140737488355328 := by unfold old; omega
  generalize (fs.get nw (nm name)).isSome = ok at *
  clear h hd hrow hlook hb hol hns hu
  go_enter Tryd.func13, Tryd.ntmps13
  go_wp2_with fail
  refine (clone_any w _ _ HB.out hl).mono ?_
  rintro e w1 ⟨v1, rfl, ho, hk⟩
  have HF := Hid_mk (And.intro ho hk)
  obtain ⟨a1, cap1, rfl, -, -, -⟩ := owns_bs ho
  clear ho hk
  go_wp2
  go_ret2
  exact ⟨_, rfl, HF.out.1, HF.out.2⟩

end Go.Proofs.YtomckoeobkfklaaDoor.dsk
