/- What sorting a map's keys gives, at this program. (*Disk).Names of a disk that is up. The Names of a disk that has stopped. package snap's hasNew: whether snap.new is there, out of the disk's names. The project's Save, where it asks its disk as chapter 6 tells it: Names, Remove, Append, Sync, Rename, Sync. -/
import Derived.Shelf.SlIter.Nil
import Derived.Shelf.SortM.Plain
import Derived.Shelf.SortM.SortNone
import Derived.Test.YtmehneicdklfeaaGreatProg
import Derived.Test.YtmehneicdklfeaaGreatDiskNewM
import Derived.Test.YtmehneicdklfeaaGreatRefSaveM
import Derived.Test.YtmehneicdklfeaaGreatDiskCrashM
import Derived.Test.YtmehneicdklfeaaGreatFirstM
import Derived.Test.YtmehneicdklfeaaGreatPlainM

namespace Go.Proofs.YtmehneicdklfeaaGreat.iter
open Go.RowKit Go.Maps Go.Sort Go.Shelf
def Tryz.keys65_ren : Go.Shelf.Ren := ⟨fun | 7 => 65 | 10 => 76 | n => n, fun | 23 => 73 | 26 => 9 | 3 => 29 | 28 => 94 | 0 => 0 | 27 => 93 | 33 => 77 | 4 => 4 | n => n, fun | n => n⟩
theorem Tryz.keys65 : Go.Proofs.SlLaysZ.n7 Tryz.prog Tryz.keys65_ren := {
  mixed := by kernel_rfl
  f7 := ⟨Tryz.f65.name, by decide, Tryz.func65.trans (congrArg some (by kernel_rfl))⟩
  f10 := ⟨Tryz.f76.name, by decide, Tryz.func76.trans (congrArg some (by kernel_rfl))⟩
  t0 := Tryz.underlying0
  a0 := Tryz.isAgg0
  z0 := Tryz.sizeOf0
  v0 := Tryz.zeroValue0
  t4 := Tryz.underlying4
  a4 := Tryz.isAgg4
  z4 := Tryz.sizeOf4
  v4 := Tryz.zeroValue4
  t23 := Tryz.underlying73
  a23 := Tryz.isAgg73
  z23 := Tryz.sizeOf73
  v23 := Tryz.zeroValue73
  t26 := Tryz.underlying9
  a26 := Tryz.isAgg9
  z26 := Tryz.sizeOf9
  v26 := Tryz.zeroValue9
  t27 := Tryz.underlying93
  a27 := Tryz.isAgg93
  z27 := Tryz.sizeOf93
  v27 := Tryz.zeroValue93
  t28 := Tryz.underlying94
  a28 := Tryz.isAgg94
  z28 := Tryz.sizeOf94
  v28 := Tryz.zeroValue94
  t33 := Tryz.underlying77
  a33 := Tryz.isAgg77
  z33 := Tryz.sizeOf77
  v33 := Tryz.zeroValue77 }
def Tryz.sorted64_ren : Go.Shelf.Ren := ⟨fun | 6 => 64 | 8 => 74 | 9 => 75 | 11 => 79 | 13 => 81 | 12 => 80 | 23 => 92 | 24 => 93 | 14 => 83 | 15 => 84 | 16 => 85 | 17 => 86 | 18 => 87 | 19 => 88 | 20 => 89 | 21 => 90 | 22 => 91 | 25 => 96 | 26 => 97 | 27 => 98 | 28 => 99 | 29 => 100 | 30 => 101 | 31 => 105 | n => n, fun | 26 => 9 | 28 => 94 | 24 => 67 | 0 => 0 | 3 => 3 | 37 => 70 | 48 => 102 | 50 => 96 | 4 => 4 | 40 => 115 | 39 => 114 | 45 => 120 | 5 => 5 | 9 => 9 | 51 => 124 | 55 => 128 | 57 => 134 | 58 => 135 | 33 => 77 | n => n, fun | n => n⟩
theorem Tryz.sorted64 : Go.Proofs.SlLaysZ.n6 Tryz.prog Tryz.sorted64_ren := {
  mixed := by kernel_rfl
  f6 := ⟨Tryz.f64.name, by decide, Tryz.func64.trans (congrArg some (by kernel_rfl))⟩
  f8 := ⟨Tryz.f74.name, by decide, Tryz.func74.trans (congrArg some (by kernel_rfl))⟩
  f11 := ⟨Tryz.f79.name, by decide, Tryz.func79.trans (congrArg some (by kernel_rfl))⟩
  t0 := Tryz.underlying0
  a0 := Tryz.isAgg0
  z0 := Tryz.sizeOf0
  v0 := Tryz.zeroValue0
  t24 := Tryz.underlying67
  a24 := Tryz.isAgg67
  z24 := Tryz.sizeOf67
  v24 := Tryz.zeroValue67
  t26 := Tryz.underlying9
  a26 := Tryz.isAgg9
  z26 := Tryz.sizeOf9
  v26 := Tryz.zeroValue9
  t28 := Tryz.underlying94
  a28 := Tryz.isAgg94
  z28 := Tryz.sizeOf94
  v28 := Tryz.zeroValue94
  i26 := by kernel_rfl }
def Tryz.sort75_ren : Go.Shelf.Ren := ⟨fun | 6 => 75 | 8 => 81 | 9 => 80 | 19 => 92 | 20 => 93 | 21 => 83 | 22 => 84 | 23 => 85 | 24 => 86 | 25 => 87 | 26 => 88 | 27 => 89 | 28 => 90 | 29 => 91 | 36 => 96 | 31 => 97 | 32 => 98 | 37 => 99 | 38 => 100 | 39 => 101 | 41 => 105 | n => n, fun | 27 => 67 | 29 => 9 | 3 => 3 | 32 => 70 | 26 => 67 | 0 => 0 | 44 => 102 | 46 => 96 | 4 => 4 | 36 => 115 | 35 => 114 | 41 => 120 | 5 => 5 | 9 => 9 | 53 => 124 | 57 => 128 | 63 => 134 | 64 => 135 | n => n, fun | n => n⟩
theorem Tryz.sort75 : Go.Proofs.SlLaysM.n6 Tryz.prog Tryz.sort75_ren := {
  mixed := by kernel_rfl
  f6 := ⟨Tryz.f75.name, by decide, Tryz.func75.trans (congrArg some (by kernel_rfl))⟩
  f8 := Tryz.func81.trans (congrArg some (by kernel_rfl))
  f9 := ⟨Tryz.f80.name, by decide, Tryz.func80.trans (congrArg some (by kernel_rfl))⟩
  f19 := Tryz.func92.trans (congrArg some (by kernel_rfl))
  f20 := Tryz.func93.trans (congrArg some (by kernel_rfl))
  f21 := ⟨Tryz.f83.name, by decide, Tryz.func83.trans (congrArg some (by kernel_rfl))⟩
  f22 := ⟨Tryz.f84.name, by decide, Tryz.func84.trans (congrArg some (by kernel_rfl))⟩
  f23 := ⟨Tryz.f85.name, by decide, Tryz.func85.trans (congrArg some (by kernel_rfl))⟩
  f24 := ⟨Tryz.f86.name, by decide, Tryz.func86.trans (congrArg some (by kernel_rfl))⟩
  f25 := ⟨Tryz.f87.name, by decide, Tryz.func87.trans (congrArg some (by kernel_rfl))⟩
  f26 := ⟨Tryz.f88.name, by decide, Tryz.func88.trans (congrArg some (by kernel_rfl))⟩
  f27 := ⟨Tryz.f89.name, by decide, Tryz.func89.trans (congrArg some (by kernel_rfl))⟩
  f28 := ⟨Tryz.f90.name, by decide, Tryz.func90.trans (congrArg some (by kernel_rfl))⟩
  f29 := ⟨Tryz.f91.name, by decide, Tryz.func91.trans (congrArg some (by kernel_rfl))⟩
  f31 := Tryz.func97.trans (congrArg some (by kernel_rfl))
  f32 := Tryz.func98.trans (congrArg some (by kernel_rfl))
  f36 := ⟨Tryz.f96.name, by decide, Tryz.func96.trans (congrArg some (by kernel_rfl))⟩
  f37 := ⟨Tryz.f99.name, by decide, Tryz.func99.trans (congrArg some (by kernel_rfl))⟩
  f38 := ⟨Tryz.f100.name, by decide, Tryz.func100.trans (congrArg some (by kernel_rfl))⟩
  f39 := ⟨Tryz.f101.name, by decide, Tryz.func101.trans (congrArg some (by kernel_rfl))⟩
  f41 := ⟨Tryz.f105.name, by decide, Tryz.func105.trans (congrArg some (by kernel_rfl))⟩
  t0 := Tryz.underlying0
  a0 := Tryz.isAgg0
  z0 := Tryz.sizeOf0
  v0 := Tryz.zeroValue0
  t3 := Tryz.underlying3
  a3 := Tryz.isAgg3
  z3 := Tryz.sizeOf3
  v3 := Tryz.zeroValue3
  t4 := Tryz.underlying4
  a4 := Tryz.isAgg4
  z4 := Tryz.sizeOf4
  v4 := Tryz.zeroValue4
  t5 := Tryz.underlying5
  a5 := Tryz.isAgg5
  z5 := Tryz.sizeOf5
  v5 := Tryz.zeroValue5
  t9 := Tryz.underlying9
  a9 := Tryz.isAgg9
  z9 := Tryz.sizeOf9
  v9 := Tryz.zeroValue9
  t26 := Tryz.underlying67
  a26 := Tryz.isAgg67
  z26 := Tryz.sizeOf67
  v26 := Tryz.zeroValue67
  t27 := Tryz.underlying67
  a27 := Tryz.isAgg67
  z27 := Tryz.sizeOf67
  v27 := Tryz.zeroValue67
  t29 := Tryz.underlying9
  a29 := Tryz.isAgg9
  z29 := Tryz.sizeOf9
  v29 := Tryz.zeroValue9
  t32 := Tryz.underlying70
  a32 := Tryz.isAgg70
  z32 := Tryz.sizeOf70
  v32 := Tryz.zeroValue70
  t35 := Tryz.underlying114
  a35 := Tryz.isAgg114
  z35 := Tryz.sizeOf114
  v35 := Tryz.zeroValue114
  t36 := Tryz.underlying115
  a36 := Tryz.isAgg115
  z36 := Tryz.sizeOf115
  v36 := Tryz.zeroValue115
  t41 := Tryz.underlying120
  a41 := Tryz.isAgg120
  z41 := Tryz.sizeOf120
  v41 := Tryz.zeroValue120
  t44 := Tryz.underlying102
  a44 := Tryz.isAgg102
  z44 := Tryz.sizeOf102
  v44 := Tryz.zeroValue102
  t46 := Tryz.underlying96
  a46 := Tryz.isAgg96
  z46 := Tryz.sizeOf96
  v46 := Tryz.zeroValue96
  t53 := Tryz.underlying124
  a53 := Tryz.isAgg124
  z53 := Tryz.sizeOf124
  v53 := Tryz.zeroValue124
  t57 := Tryz.underlying128
  a57 := Tryz.isAgg128
  z57 := Tryz.sizeOf128
  v57 := Tryz.zeroValue128
  t63 := Tryz.underlying134
  a63 := Tryz.isAgg134
  z63 := Tryz.sizeOf134
  v63 := Tryz.zeroValue134
  t64 := Tryz.underlying135
  a64 := Tryz.isAgg135
  z64 := Tryz.sizeOf135
  v64 := Tryz.zeroValue135 }


theorem Tryz.sorts64 (m : Nat) : AnyZ.SortsIn Tryz.prog Tryz.sorted64_ren Fence.wide m :=
  ⟨fun blk off cap ss W hH hblk hsz => callsIn_wide.2 (AnyM.slices_Sort_string Tryz.sort75 blk off cap ss W hH hblk hsz),
   fun p cap W => callsIn_wide.2 (AnyM.slices_Sort_string_none Tryz.sort75 p cap W)⟩

theorem Tryz.maps_Keys_65 (mb : Option Nat) (W : World) : CallsIn Fence.wide 5 Tryz.prog 65 #[.map mb] W fun e w' => e = .returned (.func (.func 76) #[] #[.pointer (some ⟨W.heap.size, 0, none⟩)]) ∧ w' = W.alloc (.cells #[.map mb] 73) :=
  AnyZ.keys_in Tryz.keys65 Fence.wide 5 trivial rfl mb W

set_option maxHeartbeats 1000000 in
theorem Tryz.slices_Sorted_keys_64_65 {H : Type} (b nn : Nat) (D0 : DataW H) (R : Value → Option (DataW H × List MemPlace)) (w : World) (hown : w.ownsMap Tryz.prog 9 R b nn D0) (hmax : Maps.size D0 ≤ maxLen) (hbytes : Maps.size D0 * 16 ≤ 140737488355328) :
    CallsIn Fence.wide 5 Tryz.prog 64 #[.func (.func 76) #[] #[.pointer (some ⟨w.heap.size, 0, none⟩)]] (w.alloc (.cells #[.map (some b)] 73)) fun e w' => ∃ (v : Value) (ss : List (List UInt8)), e = .returned v ∧ ss.Perm (strKeys D0) ∧
      w'.ownsRow (w.alloc (.cells #[.map (some b)] 73)).heap.size 9 1 v ss.length ((ss.mergeSort (fun x y => decide (x ≤ y))).map encStr) ∧ (v = .slice none 0 0 ↔ ss = []) ∧ Below (w.alloc (.cells #[.map (some b)] 73)).heap.size (w.alloc (.cells #[.map (some b)] 73)) w' := by
  have hbl := hown.lt
  have hseq : SeqGives Fence.wide 2 Tryz.prog 76 #[.pointer (some ⟨w.heap.size, 0, none⟩)] encStr (fun ss => ss.Perm (strKeys D0)) (Maps.size D0) (w.alloc (.cells #[.map (some b)] 73)) :=
    AnyZ.keys_gives (ρ := Tryz.keys65_ren) { Tryz.keys65 with } Fence.wide _ trivial rfl (by omega) w.heap.size b nn D0 _ (by simp) (by simp) (by
      obtain ⟨es, clock, hb, Ft, hs, hD⟩ := hown
      exact ⟨es, clock, (Below.heap_alloc _ _ b hbl).trans hb, Ft, hs, hD⟩)
  exact AnyZ.sorted_in Tryz.sorted64 Fence.wide 5 trivial trivial trivial trivial rfl (by omega) (Tryz.sorts64 _) (enters_of Tryz.func75 (by kernel_rfl) rfl) 76 #[.pointer (some ⟨w.heap.size, 0, none⟩)] trivial (enters_of Tryz.func76 (by kernel_rfl) rfl) _ _ hmax hbytes _ hseq

set_option maxHeartbeats 1000000 in
theorem Tryz.slices_Sorted_keys_nil_64_65 (w : World) :
    CallsIn Fence.wide 5 Tryz.prog 64 #[.func (.func 76) #[] #[.pointer (some ⟨w.heap.size, 0, none⟩)]] (w.alloc (.cells #[.map none] 73)) fun e w' => ∃ (v : Value) (ss : List (List UInt8)), e = .returned v ∧ ss = [] ∧
      w'.ownsRow (w.alloc (.cells #[.map none] 73)).heap.size 9 1 v ss.length ((ss.mergeSort (fun x y => decide (x ≤ y))).map encStr) ∧ (v = .slice none 0 0 ↔ ss = []) ∧ Below (w.alloc (.cells #[.map none] 73)).heap.size (w.alloc (.cells #[.map none] 73)) w' := by
  have hseq : SeqGives Fence.wide 2 Tryz.prog 76 #[.pointer (some ⟨w.heap.size, 0, none⟩)] encStr (fun ss : List (List UInt8) => ss = []) 0 (w.alloc (.cells #[.map none] 73)) :=
    AnyZ.keys_gives_nil (ρ := Tryz.keys65_ren) { Tryz.keys65 with } Fence.wide _ trivial rfl w.heap.size _ (by simp) (by simp)
  exact AnyZ.sorted_in Tryz.sorted64 Fence.wide 5 trivial trivial trivial trivial rfl (by omega) (Tryz.sorts64 _) (enters_of Tryz.func75 (by kernel_rfl) rfl) 76 #[.pointer (some ⟨w.heap.size, 0, none⟩)] trivial (enters_of Tryz.func76 (by kernel_rfl) rfl) _ 0 (Nat.zero_le _) (by omega) _ hseq



end Go.Proofs.YtmehneicdklfeaaGreat.iter

namespace Go.Proofs.YtmehneicdklfeaaGreat.dsk
open Go.RowKit Go.Maps Go.Sort Go.Proofs.YtmehneicdklfeaaGreat.sum Go.Proofs.YtmehneicdklfeaaGreat.kept Go.Proofs.YtmehneicdklfeaaGreat.app Go.Proofs.YtmehneicdklfeaaGreat.writer Go.Proofs.YtmehneicdklfeaaGreat.clone Go.Proofs.YtmehneicdklfeaaGreat.unseal Go.Proofs.YtmehneicdklfeaaGreat.fs Go.Proofs.YtmehneicdklfeaaGreat.fsMem Go.Proofs.YtmehneicdklfeaaGreat.fsDo Go.Proofs.YtmehneicdklfeaaGreat.fsUsed Go.Proofs.YtmehneicdklfeaaGreat.turned
set_option linter.unusedVariables false

theorem kp_below {w w' : World} (h : Go.RowKit.Below w.heap.size w w') : Kp No w w' := ⟨h.os, h.tape, h.output, h.size, fun k hk _ => h.block k hk⟩

theorem keys_dat (val : Name → Value) (es : Files) : strKeys (dat val es) = namesOf es := by
  show (es.map fun e => (Lit.string e.1, DataW.held (val e.1))).map (fun p => strOf p.1) = namesOf es
  rw [List.map_map]
  rfl

/-- what Names leaves -/
def NmPost (w : World) (es : Files) (e : Ending) (w' : World) : Prop := ∃ v, e = .returned v ∧ w'.ownsRow w.heap.size 9 1 v es.length ((namesOf es).map encStr) ∧ Kp No w w'

set_option maxRecDepth 100000 in
set_option maxHeartbeats 2000000 in
theorem names_up (w : World) (base p : Nat) (ρ : Nat → Role) (d : DSt) (h : Dk w base p ρ d) (hd : d.down = false) (hl : d.now.length ≤ 1000000000) :
    Calls Tryz.prog 37 #[.pointer (some ⟨p, 0, none⟩)] w (NmPost w d.now) := by
  obtain ⟨s, nn, vp, ps, h⟩ := h
  have c2 := h.c2
  have c4 := h.c4
  rw [hd] at c2
  obtain ⟨h1, h2, h3, val, h4, h5⟩ := h.now
  have hsz : Maps.size (dat val d.now) = d.now.length := dat_size val d.now
  have hk := fun W => callsIn_wide.1 (iter.Tryz.maps_Keys_65 (some nn) W)
  have hs := callsIn_wide.1 (iter.Tryz.slices_Sorted_keys_64_65 nn d.now.length (dat val d.now) raw w h4 (by rw [hsz]; unfold maxLen; omega) (by rw [hsz]; omega))
  have HK := fun W => Hid_mk (hk W)
  have HS := Hid_mk hs
  have HR := Hid_mk h1
  clear hk hs h h1 h2 h3 h4 h5 hsz
  go_enter Tryz.func37, Tryz.ntmps37
  go_wp2_with fail
  with_reducible refine (HK _).out.mono ?_
  rintro e w' ⟨rfl, rfl⟩
  go_wp2_with fail
  with_reducible refine HS.out.mono ?_
  rintro e w2 ⟨v, ss, rfl, hperm, hrow, hnil, hb⟩
  have hsort := names_sorted HR.out (keys_dat val d.now ▸ hperm)
  have hlen : ss.length = d.now.length := by
    have := hperm.length_eq
    rw [keys_dat] at this
    rw [this]
    exact List.length_map _
  have hfin : NmPost w d.now (.returned v) w2 := ⟨v, rfl, by
    rw [hsort, hlen] at hrow
    exact owns_base hrow (by simp), ((Kp.refl No w).alloc _).trans' (kp_below hb)⟩
  have HF := Hid_mk hfin
  obtain ⟨av, cv, rfl⟩ : ∃ a c, v = .slice a ss.length c := by
    rcases hrow.2 with ⟨rfl, hz⟩ | ⟨g, cap, cur, rfl, -⟩
    · exact ⟨none, 0, by rw [hz]⟩
    · exact ⟨_, _, rfl⟩
  clear hfin hrow hb hnil hperm hsort hlen
  go_wp2
  go_ret
  exact HF.out

end Go.Proofs.YtmehneicdklfeaaGreat.dsk

namespace Go.Proofs.YtmehneicdklfeaaGreat.dsk
open Go.RowKit Go.Maps Go.Proofs.YtmehneicdklfeaaGreat.sum Go.Proofs.YtmehneicdklfeaaGreat.kept Go.Proofs.YtmehneicdklfeaaGreat.app Go.Proofs.YtmehneicdklfeaaGreat.writer Go.Proofs.YtmehneicdklfeaaGreat.clone Go.Proofs.YtmehneicdklfeaaGreat.unseal Go.Proofs.YtmehneicdklfeaaGreat.fs Go.Proofs.YtmehneicdklfeaaGreat.fsMem Go.Proofs.YtmehneicdklfeaaGreat.fsDo Go.Proofs.YtmehneicdklfeaaGreat.fsUsed Go.Proofs.YtmehneicdklfeaaGreat.turned
set_option linter.unusedVariables false

set_option maxRecDepth 100000 in
theorem names_down (w : World) (base p : Nat) (ρ : Nat → Role) (d : DSt) (h : Dk w base p ρ d) (hd : d.down = true) : Calls Tryz.prog 37 #[.pointer (some ⟨p, 0, none⟩)] w fun e w' => e = .returned (.slice none 0 0) ∧ w = w' := by
  obtain ⟨s, nn, vp, ps, h⟩ := h
  have c2 := h.c2
  rw [hd] at c2
  clear h hd
  go_enter Tryz.func37, Tryz.ntmps37
  go_wp2
  go_ret
  exact ⟨rfl, rfl⟩

end Go.Proofs.YtmehneicdklfeaaGreat.dsk

namespace Go.Proofs.YtmehneicdklfeaaGreat.snp
open Go.RowKit Go.Maps Go.Sort Go.Proofs.YtmehneicdklfeaaGreat.sum Go.Proofs.YtmehneicdklfeaaGreat.kept Go.Proofs.YtmehneicdklfeaaGreat.app Go.Proofs.YtmehneicdklfeaaGreat.writer Go.Proofs.YtmehneicdklfeaaGreat.clone Go.Proofs.YtmehneicdklfeaaGreat.fs Go.Proofs.YtmehneicdklfeaaGreat.fsDo Go.Proofs.YtmehneicdklfeaaGreat.dsk Go.Proofs.YtmehneicdklfeaaGreat.r2 Go.Proofs.YtmehneicdklfeaaGreat.pair
set_option linter.unusedVariables false

/-- a slice of names, read -/
def Nr (w : World) (v : Value) (ns : List Name) : Prop :=
  ∃ a cap, v = .slice a ns.length cap ∧ ns.length ≤ cap ∧ cap ≤ 9223372036854775807 ∧ (ns ≠ [] → ∃ b, a = some ⟨b, 0, none⟩ ∧ ∀ k (h : k < ns.length), w.cell? ⟨b, k, none⟩ = some (encStr ns[k]))
theorem Nr.of_row {w : World} {base : Nat} {v : Value} {ns : List Name} (h : w.ownsRow base 9 1 v ns.length (ns.map encStr)) : Nr w v ns := by
  rcases h.2 with ⟨rfl, h0⟩ | ⟨g, cap, cur, rfl, hb, hg, r1, r2, r3, r4⟩
  · have : ns = [] := List.eq_nil_of_length_eq_zero h0
    subst this
    exact ⟨none, 0, rfl, Nat.le_refl _, by decide, fun h => absurd rfl h⟩
  · refine ⟨_, cap, rfl, r1, by unfold maxLen at r2; omega, fun _ => ⟨g, rfl, fun k hk => ?_⟩⟩
    have := h.cells (g := g) rfl k (encStr ns[k]) (by simp [hk])
    rw [addr_add, Nat.zero_add] at this
    exact this

def NxRel (ns : List Name) (n : ByteArray) (w : World) (i : Value) (wr : World) : Prop := ∃ k : Nat, i = .int .i64 (k : Int) ∧ k ≤ ns.length ∧ (∀ j (h : j < ns.length), j < k → ns[j] ≠ nm n) ∧ w = wr
/-- what Index answers of a name -/
def NxPost (ns : List Name) (n : ByteArray) (w : World) (e : Ending) (w' : World) : Prop := (∃ i : Int, e = .returned (.int .i64 i) ∧ (0 ≤ i ↔ nm n ∈ ns)) ∧ w = w'

set_option maxRecDepth 100000 in
set_option maxHeartbeats 2000000 in
theorem nindex_any (w : World) (v : Value) (ns : List Name) (n : ByteArray) (h : Nr w v ns) (hl : ns.length ≤ 1000000000000) : Calls Tryz.prog 70 #[v, .string n] w (NxPost ns n w) := by
  obtain ⟨a, cap, rfl, h1, h2, h3⟩ := h
  have HC := Hid_mk h3
  clear h3
  go_enter Tryz.func70, Tryz.ntmps70
  go_wp2
  go_loopw [8] (fun i wr => NxRel ns n w i wr) (fun i _ => ns.length - (intOf i).toNat)
  case atStart => exact ⟨0, rfl, Nat.zero_le _, fun _ _ h => absurd h (Nat.not_lt_zero _), rfl⟩
  case round =>
    obtain ⟨k, rfl, hk, hb, rfl⟩ := hrel
    have HB := Hid_mk hb
    clear hb
    by_cases hlt : k < ns.length
    · have hki : (k : Int) < (ns.length : Int) := by omega
      have hk0 : (0 : Int) ≤ (k : Int) := Int.natCast_nonneg _
      obtain ⟨b, rfl, hc⟩ := HC.out (by intro e; rw [e] at hlt; simp at hlt)
      obtain ⟨x, hx⟩ : ∃ x : ByteArray, x = ⟨ns[k].toArray⟩ := ⟨_, rfl⟩
      have c0 : w.cell? ⟨b, k, none⟩ = some (.string x) := (hc k hlt).trans (congrArg (fun y => some (Value.string y)) hx.symm)
      have hnx : nm x = ns[k] := by rw [hx]; rfl
      have HLt := Hid_mk hlt
      by_cases he : n = x
      · have HP : Hid (NxPost ns n w (.returned (.int .i64 (k : Int))) w) := Hid_mk ⟨⟨_, rfl, fun _ => by rw [he, hnx]; exact List.getElem_mem hlt, fun _ => hk0⟩, rfl⟩
        subst he
        clear hc hx hlt hnx
        go_wp2
        go_ret
        exact HP.out
      · have HN := Hid_mk (show NxRel ns n w (.int .i64 ((k : Int) + 1)) w from ⟨k + 1, by push_cast; rfl, hlt, fun j hj hjk => by
          by_cases e : j = k
          · subst e; exact fun e2 => he (nm_inj (hnx.trans e2)).symm
          · exact HB.out j hj (by omega), rfl⟩)
        have hxn := txt_ne he
        clear hc hx hlt he hnx
        go_wp2
        go_roundw
        case rel => exact HN.out
        case measure => have := HLt.out; simp only [intOf]; omega
    · have hki : ¬ (k : Int) < (ns.length : Int) := by omega
      have HP : Hid (NxPost ns n w (.returned (.int .i64 (-1))) w) := Hid_mk ⟨⟨-1, rfl, fun h => absurd h (by decide), fun hm => by
        obtain ⟨j, hj, e⟩ := List.getElem_of_mem hm
        exact absurd e (HB.out j hj (by omega))⟩, rfl⟩
      clear hlt
      go_wp2
      go_ret
      exact HP.out

set_option maxRecDepth 100000 in
set_option maxHeartbeats 2000000 in
theorem ncontains_any (w : World) (v : Value) (ns : List Name) (n : ByteArray) (b : Bool) (h : Nr w v ns) (hl : ns.length ≤ 1000000000000) (hb : b = true ↔ nm n ∈ ns) : Calls Tryz.prog 60 #[v, .string n] w fun e w' => e = .returned (.bool b) ∧ w = w' := by
  have HI := Hid_mk (nindex_any w v ns n h hl)
  have HB := Hid_mk hb
  clear h hb hl
  go_enter Tryz.func60, Tryz.ntmps60
  go_wp2_with fail
  with_reducible refine HI.out.mono ?_
  rintro e w1 ⟨⟨i, rfl, hi⟩, rfl⟩
  have hbi : b = decide (0 ≤ i) := by
    rw [Bool.eq_iff_iff, HB.out, decide_eq_true_iff]
    exact hi.symm
  have HBi := Hid_mk hbi
  clear hbi hi
  have hfin : (Ending.returned (Value.bool (decide (0 ≤ i))) = Ending.returned (Value.bool b)) := by rw [HBi.out]
  have HF := Hid_mk hfin
  clear hfin
  go_wp2
  go_ret
  exact ⟨HF.out, rfl⟩

theorem here_mem {d : DSt} (hd : d.down = false) (n : ByteArray) : hereB d n = true ↔ nm n ∈ namesOf d.now := by
  unfold hereB
  rw [hd]
  show (get d.now (nm n)).isSome = true ↔ _
  unfold namesOf
  constructor
  · intro h
    cases hg : get d.now (nm n) with
    | none => rw [hg] at h; cases h
    | some b =>
      by_cases hm : nm n ∈ d.now.map (·.1)
      · exact hm
      · have : get d.now (nm n) = none := get_none.2 fun p hp e => hm (by rw [← e]; exact List.mem_map_of_mem hp)
        rw [this] at hg; cases hg
  · intro hm
    cases hg : get d.now (nm n) with
    | some b => rfl
    | none =>
      obtain ⟨p, hp, e⟩ := List.mem_map.1 hm
      exact absurd e (get_none.1 hg p hp)

set_option maxRecDepth 100000 in
set_option maxHeartbeats 2000000 in
theorem has_any (w : World) (base p M : Nat) (ρ : Nat → Role) (d : DSt) (h : Dk w base p ρ d) (hok : OkN M d) (hM : M ≤ 1000) :
    Calls Tryz.prog 25 #[.pointer (some ⟨p, 0, none⟩)] w fun e w' => e = .returned (.bool (hereB d newN)) ∧ Kp No w w' := by
  have hl : d.now.length ≤ 1000 := by
    have := len_all hok.1.rising d.cs
    have := hok.1.few
    show (all d.syn d.cs).length ≤ 1000
    omega
  cases hd : d.down with
  | true =>
    have e1 : hereB d newN = false := by unfold hereB; rw [hd]; rfl
    rw [e1]
    have HN := Hid_mk (names_down w base p ρ d h hd)
    have HC := Hid_mk (ncontains_any w (.slice none 0 0) [] newN false ⟨none, 0, rfl, Nat.le_refl _, by decide, fun h => absurd rfl h⟩ (by decide) (by simp))
    clear h hok e1
    go_enter Tryz.func25, Tryz.ntmps25
    go_wp2_with fail
    with_reducible refine HN.out.mono ?_
    rintro e w1 ⟨rfl, rfl⟩
    go_wp2_with fail
    with_reducible refine HC.out.mono ?_
    rintro e w2 ⟨rfl, rfl⟩
    go_wp2
    go_ret
    exact ⟨rfl, Kp.refl _ _⟩
  | false =>
    have HN := Hid_mk (names_up w base p ρ d h hd (by omega))
    have HM := Hid_mk (here_mem hd newN)
    have HL := Hid_mk hl
    obtain ⟨b, hb⟩ : ∃ b, b = hereB d newN := ⟨_, rfl⟩
    rw [← hb] at HM ⊢
    clear h hok hl hb
    go_enter Tryz.func25, Tryz.ntmps25
    go_wp2_with fail
    with_reducible refine HN.out.mono ?_
    rintro e w1 ⟨v, rfl, ho, hk⟩
    have hlen : (namesOf d.now).length = d.now.length := List.length_map _
    have HC := Hid_mk (ncontains_any w1 v (namesOf d.now) newN b (Nr.of_row (hlen ▸ ho)) (by have := HL.out; omega) HM.out)
    have HK := Hid_mk hk
    clear hk ho hlen
    go_wp2_with fail
    with_reducible refine HC.out.mono ?_
    rintro e w2 ⟨rfl, rfl⟩
    go_wp2
    go_ret
    exact ⟨rfl, HK.out⟩

end Go.Proofs.YtmehneicdklfeaaGreat.snp

namespace Go.Proofs.YtmehneicdklfeaaGreat.snp
open Go.RowKit Go.Maps Go.Proofs.YtmehneicdklfeaaGreat.sum Go.Proofs.YtmehneicdklfeaaGreat.kept Go.Proofs.YtmehneicdklfeaaGreat.app Go.Proofs.YtmehneicdklfeaaGreat.writer Go.Proofs.YtmehneicdklfeaaGreat.clone Go.Proofs.YtmehneicdklfeaaGreat.fs Go.Proofs.YtmehneicdklfeaaGreat.fsDo Go.Proofs.YtmehneicdklfeaaGreat.unseal Go.Proofs.YtmehneicdklfeaaGreat.dsk Go.Proofs.YtmehneicdklfeaaGreat.r2 Go.Proofs.YtmehneicdklfeaaGreat.pair Go.Proofs.YtmehneicdklfeaaGreat.frm
set_option linter.unusedVariables false

section
variable {w w' : World} {base p M : Nat} {ρ : Nat → Role} {d : DSt}
theorem st_num {f : FuncId} {args : Array Value} {d' : DSt} {n e1 : Int} (h : Calls Tryz.prog f args w (StPost base p ρ d' w (.int .i64 n))) (he : n = e1) :
    Calls Tryz.prog f args w fun e w' => e = .returned (.int .i64 e1) ∧ Hid (∃ ρ', Dk w' base p ρ' d' ∧ Fr ρ w ρ' w') := by
  subst he
  exact h.mono fun _ _ ⟨h1, h2⟩ => ⟨h1, Hid_mk h2⟩
theorem new_other (h : Dk w base p ρ d) {v : Value} {bs : List UInt8} (ho : w'.ownsRow w.heap.size 5 1 v bs.length (bs.map B)) : ∀ x o m c, v = .slice (some ⟨x, o, none⟩) m c → ρ x = .other := fun x o m c e => by
  rcases owns_any ho with ⟨rfl, -⟩ | ⟨g, cap, rfl, hg⟩
  · cases e
  · cases e
    exact h.hi hg.1
theorem pread_any (h : Dk w base p ρ d) (hok : OkN M d) (hM : M ≤ 1000) (n : ByteArray) (hn : n.size ≤ maxLen) :
    Calls Tryz.prog 27 #[.pointer (some ⟨p, 0, none⟩), .string n] w fun e w' => ∃ v, e = .returned (.tuple #[v, .bool (hereB d n)]) ∧ w'.ownsRow w.heap.size 5 1 v (readD d n).length ((readD d n).map B) ∧ (readD d n).length ≤ 10000000000 ∧ Kp No w w' := by
  have q2 := hok.1.small
  have q4 := used_all hok.1.rising d.cs
  have h8 : used d.now = used (all d.syn d.cs) := rfl
  have hu : used d.now ≤ 10000000000 := by omega
  cases hd : d.down with
  | true =>
    refine (read_down w base p ρ d n h hd).mono ?_
    rintro e w' ⟨he, rfl⟩
    have e1 : hereB d n = false := by unfold hereB; rw [hd]; rfl
    have e2 : readD d n = [] := by unfold readD; rw [if_pos hd]
    rw [e1, e2]
    exact ⟨_, he, World.ownsRow_nil _ _ _ _, Nat.zero_le _, Kp.refl _ _⟩
  | false =>
    obtain ⟨s, nn, vp, ps, hh⟩ := h
    refine (dsk.read_any w base p ρ d d.now s nn vp ps n hh hd hn (by omega)).mono ?_
    rintro e w' ⟨v, he, ho, hk⟩
    have e1 : hereB d n = (fs.get d.now (nm n)).isSome := by unfold hereB; rw [hd]; rfl
    have e2 : readD d n = old d.now (nm n) := by unfold readD; rw [if_neg (by rw [hd]; simp)]
    rw [e1, e2]
    have h9 : (old d.now (nm n)).length ≤ used d.now := get_len (rising_all hok.1.rising d.cs) (nm n)
    exact ⟨v, he, ho, by omega, hk⟩
end

set_option maxRecDepth 100000 in
set_option maxHeartbeats 4000000 in
theorem save_any : SaveC := by
  intro w base p M ρ d v bs h hok hM hb hvo hbl
  have HB := Hid_mk hb
  have HA := Hid_mk hvo
  have HZ := Hid_mk h
  have HOk := Hid_mk hok
  have HH := Hid_mk (has_any w base p M ρ d h hok (by omega))
  obtain ⟨a, cap, rfl, hlc, hm, -⟩ := hb
  unfold maxLen at hm
  clear h hok hvo
  by_cases hl : 4194304 < bs.length
  · have hli : (4194304 : Int) < (bs.length : Int) := by omega
    have HF : Hid (StPost base p ρ (savD d bs).2 w (.int .i64 (savD d bs).1) (.returned (.int .i64 12)) w) := Hid_mk (by rw [savD_no hl]; exact ⟨rfl, ρ, HZ.out, Fr.refl _ _⟩)
    go_enter Tryz.func11, Tryz.ntmps11
    go_wp2
    go_ret
    exact HF.out
  · have hli : ¬ (4194304 : Int) < (bs.length : Int) := by omega
    have hEq := savD_eq (d := d) (bs := bs) (by omega)
    obtain ⟨X, hX⟩ : ∃ X, X = savD d bs := ⟨_, rfl⟩
    rw [← hX] at hEq ⊢
    clear hX
    cases hh : hereB d newN with
    | false =>
      rw [hh] at HH
      have hc : clrD d = (0, d) := by unfold clrD; rw [hh]; rfl
      have hs : X = savT d bs := by rw [hEq, hc]; rfl
      have HX := Hid_mk hs
      clear hs hc hh hEq hl
      go_enter Tryz.func11, Tryz.ntmps11
      go_wp2_with fail
      with_reducible refine HH.out.mono ?_
      rintro e w1 ⟨rfl, k1⟩
      have HZ1 := Hid_mk (HZ.out.no k1)
      have HB1 := Hid_mk (bs_no HB.out k1)
      have HKp := Hid_mk (Fr.of_no (ρ := ρ) k1)
      have HOk1 : Hid (OkN (M + 1) d) := Hid_mk (OkN.more HOk.out (by omega))
      clear k1
      obtain ⟨e2, he2⟩ : ∃ e2, (appR d newN (framed bs)).1 = e2 := ⟨_, rfl⟩
      have HFr := Hid_mk (frm.frame_any w1 (.slice a bs.length cap) bs HB1.out)
      go_wp2_with fail
      with_reducible refine HFr.out.mono ?_
      rintro e wf ⟨vf, rfl, of, kf⟩
      have HAp := Hid_mk (st_num (papp_any (HZ1.out.no kf) HOk1.out.1 (by omega) newN vf (framed bs) (by decide) (owns_bs of) (fun _ => new_other HZ1.out of) (Nat.le_trans (framed_small bs) (by decide))) he2)
      have HKf := Hid_mk (HKp.out.trans (Fr.of_no kf))
      clear of kf HFr
      go_wp2_with fail
      with_reducible refine HAp.out.mono ?_
      rintro e w3 ⟨rfl, H3⟩
      obtain ⟨ρ3, hz3, hf3⟩ := H3.out
      have HZ3 := Hid_mk hz3
      have HK3 := Hid_mk (HKf.out.trans hf3)
      clear hz3 hf3 H3 HAp HKf
      by_cases h2 : e2 = 0
      · subst h2
        have hs2 : X = seqD (syR (appR d newN (framed bs)).2) fun d => seqD (reR d newN snapN) fun d => syR d := HX.out.trans (seqD_ok _ he2)
        clear HX
        have HX := Hid_mk hs2
        have HOk3 := Hid_mk (appR_ok HOk1.out newN (framed bs))
        obtain ⟨d3, hd3⟩ : ∃ d3, d3 = (appR d newN (framed bs)).2 := ⟨_, rfl⟩
        rw [← hd3] at HOk3 HZ3 HX
        clear hd3 he2 hs2
        obtain ⟨e3, he3⟩ : ∃ e3, (syR d3).1 = e3 := ⟨_, rfl⟩
        have HSy := Hid_mk (st_num (psync_any HZ3.out HOk3.out.1 (by omega)) he3)
        go_wp2_with fail
        with_reducible refine HSy.out.mono ?_
        rintro e w4 ⟨rfl, H4⟩
        obtain ⟨ρ4, hz4, hf4⟩ := H4.out
        have HZ4 := Hid_mk hz4
        have HK4 := Hid_mk (HK3.out.trans hf4)
        clear hz4 hf4 H4 HSy HK3 HZ3
        by_cases h3 : e3 = 0
        · subst h3
          have hs2 := HX.out.trans (seqD_ok _ he3)
          clear HX
          have HX := Hid_mk hs2
          clear hs2
          have HOk4 := Hid_mk (syR_ok HOk3.out)
          obtain ⟨d4, hd4⟩ : ∃ d4, d4 = (syR d3).2 := ⟨_, rfl⟩
          rw [← hd4] at HOk4 HZ4 HX
          clear hd4 he3 HOk3
          obtain ⟨e4, he4⟩ : ∃ e4, (reR d4 newN snapN).1 = e4 := ⟨_, rfl⟩
          have HRe := Hid_mk (st_num (prename_any HZ4.out HOk4.out.1 (by omega) newN snapN (by decide) (by decide)) he4)
          go_wp2_with fail
          with_reducible refine HRe.out.mono ?_
          rintro e w5 ⟨rfl, H5⟩
          obtain ⟨ρ5, hz5, hf5⟩ := H5.out
          have HZ5 := Hid_mk hz5
          have HK5 := Hid_mk (HK4.out.trans hf5)
          clear hz5 hf5 H5 HRe HK4 HZ4
          by_cases h4 : e4 = 0
          · subst h4
            have hs2 := HX.out.trans (seqD_ok _ he4)
            clear HX
            have HX := Hid_mk hs2
            clear hs2
            have HOk5 := Hid_mk (reR_ok HOk4.out newN snapN (by decide))
            obtain ⟨d5, hd5⟩ : ∃ d5, d5 = (reR d4 newN snapN).2 := ⟨_, rfl⟩
            rw [← hd5] at HOk5 HZ5 HX
            clear hd5 he4 HOk4
            have HSz := Hid_mk (st_num (psync_any HZ5.out HOk5.out.1 (by omega)) rfl)
            go_wp2_with fail
            with_reducible refine HSz.out.mono ?_
            rintro e w6 ⟨rfl, H6⟩
            obtain ⟨ρ6, hz6, hf6⟩ := H6.out
            have HF : Hid (StPost base p ρ X.2 w (.int .i64 X.1) (.returned (.int .i64 (syR d5).1)) w6) := Hid_mk (by rw [HX.out]; exact ⟨rfl, ρ6, hz6, HK5.out.trans hf6⟩)
            clear hz6 hf6 H6 HSz HK5 HZ5
            go_wp2
            go_ret
            exact HF.out
          · have hs2 := HX.out.trans (seqD_no _ (by rw [he4]; exact h4))
            have HF : Hid (StPost base p ρ X.2 w (.int .i64 X.1) (.returned (.int .i64 e4)) w5) := Hid_mk (by rw [hs2]; exact ⟨by rw [he4], ρ5, HZ5.out, HK5.out⟩)
            clear he4 hs2
            go_wp2
            go_ret
            exact HF.out
        · have hs2 := HX.out.trans (seqD_no _ (by rw [he3]; exact h3))
          have HF : Hid (StPost base p ρ X.2 w (.int .i64 X.1) (.returned (.int .i64 e3)) w4) := Hid_mk (by rw [hs2]; exact ⟨by rw [he3], ρ4, HZ4.out, HK4.out⟩)
          clear he3 hs2
          go_wp2
          go_ret
          exact HF.out
      · have hs2 : X = appR d newN (framed bs) := HX.out.trans (seqD_no _ (by rw [he2]; exact h2))
        have HF : Hid (StPost base p ρ X.2 w (.int .i64 X.1) (.returned (.int .i64 e2)) w3) := Hid_mk (by rw [hs2]; exact ⟨by rw [he2], ρ3, HZ3.out, HK3.out⟩)
        clear he2 hs2
        go_wp2
        go_ret
        exact HF.out
    | true =>
      rw [hh] at HH
      have hc : clrD d = rmR d newN := by unfold clrD; rw [hh]; rfl
      rw [hc] at hEq
      have HEq := Hid_mk hEq
      clear hc hh hl hEq
      go_enter Tryz.func11, Tryz.ntmps11
      go_wp2_with fail
      with_reducible refine HH.out.mono ?_
      rintro e w1 ⟨rfl, k1⟩
      have HZ1 := Hid_mk (HZ.out.no k1)
      have HB1 := Hid_mk (bs_no HB.out k1)
      have HK1 := Hid_mk (Fr.of_no (ρ := ρ) k1)
      have hz1 := k1.size
      clear k1
      obtain ⟨e1, he1⟩ : ∃ e1, (rmR d newN).1 = e1 := ⟨_, rfl⟩
      have HRm := Hid_mk (st_num (premove_any HZ1.out HOk.out.1 (by omega) newN (by decide)) he1)
      go_wp2_with fail
      with_reducible refine HRm.out.mono ?_
      rintro e w2 ⟨rfl, H2⟩
      obtain ⟨ρ2, hz2, hf2⟩ := H2.out
      have HZ2 := Hid_mk hz2
      by_cases h1 : e1 = 0
      · have hs : X = savT (rmR d newN).2 bs := by rw [HEq.out, seqD_ok _ (he1.trans h1)]
        have HX := Hid_mk hs
        clear hs HRm HEq
        subst h1
        have HOk1 := Hid_mk (rmR_ok HOk.out newN (by decide))
        have HB2 : Hid (Bs w2 (.slice a bs.length cap) bs) := Hid_mk (bs_keptE HB1.out hf2.1 fun hne x o n c e h => h (HA.out hne x o n c e))
        have HKp := Hid_mk (HK1.out.trans hf2)
        clear hz2 hf2 H2
        obtain ⟨d2, hd2⟩ : ∃ d2, d2 = (rmR d newN).2 := ⟨_, rfl⟩
        rw [← hd2] at HOk1 HZ2 HX
        clear hd2 he1
        obtain ⟨e2, he2⟩ : ∃ e2, (appR d2 newN (framed bs)).1 = e2 := ⟨_, rfl⟩
        have HFr := Hid_mk (frm.frame_any w2 (.slice a bs.length cap) bs HB2.out)
        go_wp2_with fail
        with_reducible refine HFr.out.mono ?_
        rintro e wf ⟨vf, rfl, of, kf⟩
        have HAp := Hid_mk (st_num (papp_any (HZ2.out.no kf) HOk1.out.1 (by omega) newN vf (framed bs) (by decide) (owns_bs of) (fun _ => new_other HZ2.out of) (Nat.le_trans (framed_small bs) (by decide))) he2)
        have HKf := Hid_mk (HKp.out.trans (Fr.of_no kf))
        clear of kf HFr
        go_wp2_with fail
        with_reducible refine HAp.out.mono ?_
        rintro e w3 ⟨rfl, H3⟩
        obtain ⟨ρ3, hz3, hf3⟩ := H3.out
        have HZ3 := Hid_mk hz3
        have HK3 := Hid_mk (HKf.out.trans hf3)
        clear hz3 hf3 H3 HAp HKf
        by_cases h2 : e2 = 0
        · subst h2
          have hs2 : X = seqD (syR (appR d2 newN (framed bs)).2) fun d => seqD (reR d newN snapN) fun d => syR d := HX.out.trans (seqD_ok _ he2)
          clear HX
          have HX := Hid_mk hs2
          have HOk3 := Hid_mk (appR_ok HOk1.out newN (framed bs))
          obtain ⟨d3, hd3⟩ : ∃ d3, d3 = (appR d2 newN (framed bs)).2 := ⟨_, rfl⟩
          rw [← hd3] at HOk3 HZ3 HX
          clear hd3 he2 hs2
          obtain ⟨e3, he3⟩ : ∃ e3, (syR d3).1 = e3 := ⟨_, rfl⟩
          have HSy := Hid_mk (st_num (psync_any HZ3.out HOk3.out.1 (by omega)) he3)
          go_wp2_with fail
          with_reducible refine HSy.out.mono ?_
          rintro e w4 ⟨rfl, H4⟩
          obtain ⟨ρ4, hz4, hf4⟩ := H4.out
          have HZ4 := Hid_mk hz4
          have HK4 := Hid_mk (HK3.out.trans hf4)
          clear hz4 hf4 H4 HSy HK3 HZ3
          by_cases h3 : e3 = 0
          · subst h3
            have hs2 := HX.out.trans (seqD_ok _ he3)
            clear HX
            have HX := Hid_mk hs2
            clear hs2
            have HOk4 := Hid_mk (syR_ok HOk3.out)
            obtain ⟨d4, hd4⟩ : ∃ d4, d4 = (syR d3).2 := ⟨_, rfl⟩
            rw [← hd4] at HOk4 HZ4 HX
            clear hd4 he3 HOk3
            obtain ⟨e4, he4⟩ : ∃ e4, (reR d4 newN snapN).1 = e4 := ⟨_, rfl⟩
            have HRe := Hid_mk (st_num (prename_any HZ4.out HOk4.out.1 (by omega) newN snapN (by decide) (by decide)) he4)
            go_wp2_with fail
            with_reducible refine HRe.out.mono ?_
            rintro e w5 ⟨rfl, H5⟩
            obtain ⟨ρ5, hz5, hf5⟩ := H5.out
            have HZ5 := Hid_mk hz5
            have HK5 := Hid_mk (HK4.out.trans hf5)
            clear hz5 hf5 H5 HRe HK4 HZ4
            by_cases h4 : e4 = 0
            · subst h4
              have hs2 := HX.out.trans (seqD_ok _ he4)
              clear HX
              have HX := Hid_mk hs2
              clear hs2
              have HOk5 := Hid_mk (reR_ok HOk4.out newN snapN (by decide))
              obtain ⟨d5, hd5⟩ : ∃ d5, d5 = (reR d4 newN snapN).2 := ⟨_, rfl⟩
              rw [← hd5] at HOk5 HZ5 HX
              clear hd5 he4 HOk4
              have HSz := Hid_mk (st_num (psync_any HZ5.out HOk5.out.1 (by omega)) rfl)
              go_wp2_with fail
              with_reducible refine HSz.out.mono ?_
              rintro e w6 ⟨rfl, H6⟩
              obtain ⟨ρ6, hz6, hf6⟩ := H6.out
              have HF : Hid (StPost base p ρ X.2 w (.int .i64 X.1) (.returned (.int .i64 (syR d5).1)) w6) := Hid_mk (by rw [HX.out]; exact ⟨rfl, ρ6, hz6, HK5.out.trans hf6⟩)
              clear hz6 hf6 H6 HSz HK5 HZ5
              go_wp2
              go_ret
              exact HF.out
            · have hs2 := HX.out.trans (seqD_no _ (by rw [he4]; exact h4))
              have HF : Hid (StPost base p ρ X.2 w (.int .i64 X.1) (.returned (.int .i64 e4)) w5) := Hid_mk (by rw [hs2]; exact ⟨by rw [he4], ρ5, HZ5.out, HK5.out⟩)
              clear he4 hs2
              go_wp2
              go_ret
              exact HF.out
          · have hs2 := HX.out.trans (seqD_no _ (by rw [he3]; exact h3))
            have HF : Hid (StPost base p ρ X.2 w (.int .i64 X.1) (.returned (.int .i64 e3)) w4) := Hid_mk (by rw [hs2]; exact ⟨by rw [he3], ρ4, HZ4.out, HK4.out⟩)
            clear he3 hs2
            go_wp2
            go_ret
            exact HF.out
        · have hs2 : X = appR d2 newN (framed bs) := HX.out.trans (seqD_no _ (by rw [he2]; exact h2))
          have HF : Hid (StPost base p ρ X.2 w (.int .i64 X.1) (.returned (.int .i64 e2)) w3) := Hid_mk (by rw [hs2]; exact ⟨by rw [he2], ρ3, HZ3.out, HK3.out⟩)
          clear he2 hs2
          go_wp2
          go_ret
          exact HF.out
      · have hs : X = rmR d newN := by rw [HEq.out, seqD_no _ (by rw [he1]; exact h1)]
        have HF : Hid (StPost base p ρ X.2 w (.int .i64 X.1) (.returned (.int .i64 e1)) w2) := Hid_mk (by rw [hs]; exact ⟨by rw [he1], ρ2, hz2, HK1.out.trans hf2⟩)
        clear hs hz2 hf2 H2 HRm HZ2 HEq he1
        go_wp2
        go_ret
        exact HF.out

end Go.Proofs.YtmehneicdklfeaaGreat.snp
