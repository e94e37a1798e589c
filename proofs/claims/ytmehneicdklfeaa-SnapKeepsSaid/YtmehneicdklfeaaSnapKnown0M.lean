/- The laws' first lines: chapter 6's example, and a crash. The names of rising files are what their sorting gives. No program is named here. What sorting a map's keys gives, at this program. (*Disk).Names of a disk that is up. The Names of a disk that has stopped. package snap's hasNew: whether snap.new is there, out of the disk's names. -/
import Derived.Test.YtmehneicdklfeaaSnapCutsM
import Derived.Test.YtmehneicdklfeaaFsDoM
import Derived.Test.YtmehneicdklfeaaDiskNewM
import Derived.Lib.SlBytesConst
import Derived.Test.YtmehneicdklfeaaFsPlainM
import Derived.Sort.KeysCollected
import Derived.Shelf.SlIter.Nil
import Derived.Shelf.SortM.Plain
import Derived.Shelf.SortM.SortNone
import Derived.Test.YtmehneicdklfeaaProg
import Derived.Test.YtmehneicdklfeaaDiskCrashM
import Derived.Test.YtmehneicdklfeaaSealM

namespace Go.Proofs.Ytmehneicdklfeaa.snp
open Go.RowKit Go.Maps Go.Proofs.Ytmehneicdklfeaa.sum Go.Proofs.Ytmehneicdklfeaa.kept Go.Proofs.Ytmehneicdklfeaa.app Go.Proofs.Ytmehneicdklfeaa.writer Go.Proofs.Ytmehneicdklfeaa.clone Go.Proofs.Ytmehneicdklfeaa.known Go.Proofs.Ytmehneicdklfeaa.fs Go.Proofs.Ytmehneicdklfeaa.fsDo Go.Proofs.Ytmehneicdklfeaa.unseal Go.Proofs.Ytmehneicdklfeaa.dsk Go.Proofs.Ytmehneicdklfeaa.r2 Go.Proofs.Ytmehneicdklfeaa.pair Go.Proofs.Ytmehneicdklfeaa.frm
set_option linter.unusedVariables false

theorem ok_new : OkN 0 (stS none (-1)) := ⟨new_ok 8388608 (by omega) (by omega), (fun e he => by cases he), (fun c hc => by cases hc)⟩

section
variable {w : World} {base p M : Nat} {ρ : Nat → Role} {d : DSt}
theorem save_to (hS : SaveC) {n : Int} {d' : DSt} (v : Value) (bs : List UInt8) (h : Dk w base p ρ d) (hok : OkN M d) (hM : M ≤ 900) (hb : Bs w v bs) (hvo : bs ≠ [] → ∀ x o m c, v = .slice (some ⟨x, o, none⟩) m c → ρ x = .other) (hbl : bs.length ≤ 140737488355328) (he : savD d bs = (n, d')) :
    Calls Try.prog 8 #[.pointer (some ⟨p, 0, none⟩), v] w fun e w' => e = .returned (.int .i64 n) ∧ Hid (OkN (M + 5) d' ∧ ∃ ρ', Dk w' base p ρ' d' ∧ Fr ρ w ρ' w') := by
  have h1 := hS w base p M ρ d v bs h hok hM hb hvo hbl
  have h2 := savD_ok hok bs
  rw [he] at h1 h2
  exact h1.mono fun _ _ ⟨e1, e2⟩ => ⟨e1, Hid_mk ⟨h2, e2⟩⟩
theorem open_to (hO : OpenC) {L : Option (List UInt8)} {f : Int} (h : Dk w base p ρ d) (hok : OkN M d) (hM : M ≤ 900) (hL : ∀ x, L = some x → x.length ≤ 300) (he : opnD d = (0, stS L f)) :
    Calls Try.prog 6 #[.pointer (some ⟨p, 0, none⟩)] w fun e w' => ∃ v ρ', e = .returned (.tuple #[v, .bool L.isSome, .int .i64 0]) ∧ Bs w' v (L.getD []) ∧ (L.getD [] ≠ [] → ∀ x o m c, v = .slice (some ⟨x, o, none⟩) m c → w.heap.size ≤ x ∧ ρ' x = .other) ∧ Hid (OkN (M + 2) (stS L f) ∧ Dk w' base p ρ' (stS L f) ∧ Fr ρ w ρ' w') := by
  have h1 := hO w base p M ρ d h hok hM
  have h2 := opnD_ok hok
  rw [opnA_st hL he, he] at h1
  rw [he] at h2
  refine h1.mono ?_
  rintro e w' ⟨v, ρ', e1, e2, e5, e3, e4⟩
  exact ⟨v, ρ', e1, e3, e4, Hid_mk ⟨h2, e2, e5⟩⟩
end

set_option maxRecDepth 100000 in
set_option maxHeartbeats 4000000 in
theorem known_any (hS : SaveC) (hO : OpenC) (w : World) : Calls Try.prog 7 #[] w fun e w' => e = .returned (.bool true) ∧ Kp No w w' := by
  have kc := fun (w : World) (C : Array Value) (n c : Nat) => Lib.run_convert_bytes_const (P := Try.prog) w 26 5 C n c Try.underlying26 Try.underlying5
  have HN := Hid_mk (new_any w 8388608 (by omega) (by omega))
  have HS := Hid_mk hS
  have HO := Hid_mk hO
  clear hS hO
  go_enter Try.func7, Try.ntmps7
  go_wp2_with fail
  with_reducible refine HN.out.mono ?_
  rintro e w1 ⟨p, ρ1, rfl, hd1, hk1, hp⟩
  have HD1 : Hid (Dk w1 w.heap.size p ρ1 (stS none (-1))) := Hid_mk hd1
  have HK1 := Hid_mk hk1
  clear HN hd1 hk1
  have HL1 := Hid_mk (bs_lit w1 [97, 98] (2, 3) (by decide))
  have kk1 : Kp No w1 (w1.alloc (.cells #[.int .u8 97, .int .u8 98] 5 (2, 3))) := (Kp.refl _ _).alloc _
  have HA := Hid_mk (save_to HS.out (.slice (some ⟨w1.heap.size, 0, none⟩) 2 2) [97, 98] (HD1.out.no kk1) ok_new (by omega) HL1.out (fun _ x o m c e => by cases e; exact HD1.out.hi (Nat.le_refl _)) (by decide) (sav_free none (fun x e => by cases e) [97, 98] (by decide)))
  go_wp2_with fail
  with_reducible refine HA.out.mono ?_
  rintro e w2 ⟨rfl, H2⟩
  obtain ⟨ok2, ρ2, h2, f2⟩ := H2.out
  have HK2 := Hid_mk ((HD1.out.no kk1).out (Nat.le_refl _) (HK1.out.trans' kk1) f2)
  have HD2 := Hid_mk h2
  clear H2 HA HL1 kk1 h2 f2
  have HOp := Hid_mk (open_to HO.out HD2.out ok2 (by omega) (fun x e => by cases e; decide) (opn_base (some [97, 98]) (-1)))
  go_wp2_with fail
  with_reducible refine HOp.out.mono ?_
  rintro e w3 ⟨va, ρ3, rfl, hba, hxa, H3⟩
  obtain ⟨ok3, h3, f3⟩ := H3.out
  have HK3 := Hid_mk (HD2.out.out (Nat.le_refl _) HK2.out f3)
  have HD3 := Hid_mk h3
  clear H3 HOp h3 f3
  have HFu := Hid_mk (pfuse_any HD3.out 2)
  go_wp2_with fail
  with_reducible refine HFu.out.mono ?_
  rintro e w4 ⟨rfl, ρ4, h4, f4⟩
  have HD4 : Hid (Dk w4 w.heap.size p ρ4 (stS (some [97, 98]) 2)) := Hid_mk h4
  have ok4 : OkN (0 + 5 + 2 + 1) (stS (some [97, 98]) 2) := fuR_ok ok3 2 (by omega)
  have HK4 := Hid_mk (HD3.out.out (Nat.le_refl _) HK3.out f4)
  have HF4 := Hid_mk f4
  clear h4 f4 HFu
  have HL4 := Hid_mk (bs_lit w4 [99, 100] (2, 3) (by decide))
  have kk4 : Kp No w4 (w4.alloc (.cells #[.int .u8 99, .int .u8 100] 5 (2, 3))) := (Kp.refl _ _).alloc _
  have HB := Hid_mk (save_to HS.out (.slice (some ⟨w4.heap.size, 0, none⟩) 2 2) [99, 100] (HD4.out.no kk4) ok4 (by omega) HL4.out (fun _ x o m c e => by cases e; exact HD4.out.hi (Nat.le_refl _)) (by decide) (sav_two (some [97, 98]) (fun x e => by cases e; decide) [99, 100] (by decide)))
  go_wp2_with fail
  with_reducible refine HB.out.mono ?_
  rintro e w5 ⟨rfl, H5⟩
  obtain ⟨ok5, ρ5, h5, f5⟩ := H5.out
  have HK5 := Hid_mk ((HD4.out.no kk4).out (Nat.le_refl _) (HK4.out.trans' kk4) f5)
  have HF5 := Hid_mk ((HF4.out.trans (Fr.of_no kk4)).trans f5)
  have HD5 := Hid_mk h5
  clear H5 HB HL4 kk4 h5 f5 HF4
  have HCr := Hid_mk (crash_any w5 w.heap.size p _ ρ5 _ 1 0 HD5.out ok5.1 (by omega))
  have ok6 := crR_ok ok5 (by omega) 1 0
  go_wp2_with fail
  with_reducible refine HCr.out.mono ?_
  rintro e w6 ⟨rfl, ρ6, h6, f6⟩
  have HK6 := Hid_mk (HD5.out.out (Nat.le_refl _) HK5.out f6)
  have HF6 := Hid_mk (HF5.out.trans f6)
  have HD6 := Hid_mk h6
  clear HCr h6 f6 HF5
  have HOp := Hid_mk (open_to HO.out HD6.out ok6 (by omega) (fun x e => by cases e; decide) (two_opn (some [97, 98]) (framed [99, 100]) 1 0))
  go_wp2_with fail
  with_reducible refine HOp.out.mono ?_
  rintro e w7 ⟨vb, ρ7, rfl, hbb, hxb, H7⟩
  obtain ⟨ok7, h7, f7⟩ := H7.out
  have HK7 := Hid_mk (HD6.out.out (Nat.le_refl _) HK6.out f7)
  have f37 := HF6.out.trans f7
  have hba7 : Bs w7 va [97, 98] := bs_keptE hba f37.1 fun hne x o m c e h => h (hxa hne x o m c e).2
  have ca := conv_bs hba7
  have cb := conv_bs hbb
  obtain ⟨aa, na, ea, -⟩ := id hba7
  obtain ⟨ab, nb, eb, -⟩ := id hbb
  have ea2 : va = .slice aa 2 na := ea
  have eb2 : vb = .slice ab 2 nb := eb
  clear ea eb
  subst ea2 eb2
  clear H7 HOp h7 f7 hba hxa hbb hxb hba7 HF6 f37 ok2 ok3 ok4 ok5 ok6 ok7
  simp only [Option.getD] at cb
  go_wp2
  go_ret
  exact ⟨rfl, HK7.out⟩

end Go.Proofs.Ytmehneicdklfeaa.snp

namespace Go.Proofs.Ytmehneicdklfeaa.fs
open Go.WideShapes Go.RowKit Go.Maps Go.Sort

theorem before_lt : ∀ {a b : List UInt8}, bytesBefore a b = true → a < b
  | [], [], h => by simp [bytesBefore] at h
  | [], _ :: _, _ => by simp
  | _ :: _, [], h => by simp [bytesBefore] at h
  | x :: r, y :: s, h => by
    simp only [bytesBefore, Bool.or_eq_true, Bool.and_eq_true, decide_eq_true_eq, beq_iff_eq] at h
    rcases h with h | ⟨rfl, h⟩
    · exact List.cons_lt_cons_iff.2 (.inl h)
    · exact List.cons_lt_cons_iff.2 (.inr ⟨rfl, before_lt h⟩)

def namesOf (es : Files) : List Name := es.map (·.1)
theorem names_sorted {es : Files} (h : Rising es) {ss : List (List UInt8)} (hp : ss.Perm (namesOf es)) : (ss.mergeSort fun x y => decide (x ≤ y)) = namesOf es := by
  have tr : ∀ a b c : List UInt8, decide (a ≤ b) = true → decide (b ≤ c) = true → decide (a ≤ c) = true := fun a b c h1 h2 => by
    simp only [decide_eq_true_eq] at *
    exact List.le_trans h1 h2
  have to : ∀ a b : List UInt8, (decide (a ≤ b) || decide (b ≤ a)) = true := fun a b => by
    simp only [Bool.or_eq_true, decide_eq_true_eq]
    exact List.le_total a b
  have hs : (namesOf es).Pairwise fun a b => decide (a ≤ b) = true := by
    refine List.pairwise_map.2 (h.imp fun {p q} hb => ?_)
    simp only [decide_eq_true_eq]
    exact List.le_of_lt (before_lt hb)
  refine List.Perm.eq_of_pairwise (le := fun a b => decide (a ≤ b) = true) (fun a b _ _ h1 h2 => ?_) (List.pairwise_mergeSort tr to ss) hs ((List.mergeSort_perm ss _).trans hp)
  simp only [decide_eq_true_eq] at h1 h2
  exact List.le_antisymm h1 h2

end Go.Proofs.Ytmehneicdklfeaa.fs

namespace Go.Proofs.Ytmehneicdklfeaa.iter
open Go.RowKit Go.Maps Go.Sort Go.Shelf
def Try.keys38_ren : Go.Shelf.Ren := ⟨fun | 7 => 38 | 10 => 44 | n => n, fun | 23 => 41 | 26 => 9 | 3 => 26 | 28 => 72 | 0 => 0 | 27 => 71 | 33 => 66 | 4 => 4 | n => n, fun | n => n⟩
theorem Try.keys38 : Go.Proofs.SlLaysZ.n7 Try.prog Try.keys38_ren := {
  mixed := by kernel_rfl
  f7 := ⟨Try.f38.name, by decide, Try.func38.trans (congrArg some (by kernel_rfl))⟩
  f10 := ⟨Try.f44.name, by decide, Try.func44.trans (congrArg some (by kernel_rfl))⟩
  t0 := Try.underlying0
  a0 := Try.isAgg0
  z0 := Try.sizeOf0
  v0 := Try.zeroValue0
  t4 := Try.underlying4
  a4 := Try.isAgg4
  z4 := Try.sizeOf4
  v4 := Try.zeroValue4
  t23 := Try.underlying41
  a23 := Try.isAgg41
  z23 := Try.sizeOf41
  v23 := Try.zeroValue41
  t26 := Try.underlying9
  a26 := Try.isAgg9
  z26 := Try.sizeOf9
  v26 := Try.zeroValue9
  t27 := Try.underlying71
  a27 := Try.isAgg71
  z27 := Try.sizeOf71
  v27 := Try.zeroValue71
  t28 := Try.underlying72
  a28 := Try.isAgg72
  z28 := Try.sizeOf72
  v28 := Try.zeroValue72
  t33 := Try.underlying66
  a33 := Try.isAgg66
  z33 := Try.sizeOf66
  v33 := Try.zeroValue66 }
def Try.sorted37_ren : Go.Shelf.Ren := ⟨fun | 6 => 37 | 8 => 42 | 9 => 43 | 11 => 47 | 13 => 49 | 12 => 48 | 23 => 60 | 24 => 61 | 14 => 51 | 15 => 52 | 16 => 53 | 17 => 54 | 18 => 55 | 19 => 56 | 20 => 57 | 21 => 58 | 22 => 59 | 25 => 64 | 26 => 65 | 27 => 66 | 28 => 67 | 29 => 68 | 30 => 69 | 31 => 73 | n => n, fun | 26 => 9 | 28 => 72 | 24 => 62 | 0 => 0 | 3 => 3 | 37 => 68 | 48 => 74 | 50 => 98 | 4 => 4 | 40 => 89 | 39 => 88 | 45 => 94 | 5 => 5 | 9 => 9 | 51 => 99 | 55 => 103 | 57 => 109 | 58 => 110 | 33 => 66 | n => n, fun | n => n⟩
theorem Try.sorted37 : Go.Proofs.SlLaysZ.n6 Try.prog Try.sorted37_ren := {
  mixed := by kernel_rfl
  f6 := ⟨Try.f37.name, by decide, Try.func37.trans (congrArg some (by kernel_rfl))⟩
  f8 := ⟨Try.f42.name, by decide, Try.func42.trans (congrArg some (by kernel_rfl))⟩
  f11 := ⟨Try.f47.name, by decide, Try.func47.trans (congrArg some (by kernel_rfl))⟩
  t0 := Try.underlying0
  a0 := Try.isAgg0
  z0 := Try.sizeOf0
  v0 := Try.zeroValue0
  t24 := Try.underlying62
  a24 := Try.isAgg62
  z24 := Try.sizeOf62
  v24 := Try.zeroValue62
  t26 := Try.underlying9
  a26 := Try.isAgg9
  z26 := Try.sizeOf9
  v26 := Try.zeroValue9
  t28 := Try.underlying72
  a28 := Try.isAgg72
  z28 := Try.sizeOf72
  v28 := Try.zeroValue72
  i26 := by kernel_rfl }
def Try.sort43_ren : Go.Shelf.Ren := ⟨fun | 6 => 43 | 8 => 49 | 9 => 48 | 19 => 60 | 20 => 61 | 21 => 51 | 22 => 52 | 23 => 53 | 24 => 54 | 25 => 55 | 26 => 56 | 27 => 57 | 28 => 58 | 29 => 59 | 36 => 64 | 31 => 65 | 32 => 66 | 37 => 67 | 38 => 68 | 39 => 69 | 41 => 73 | n => n, fun | 27 => 62 | 29 => 9 | 3 => 3 | 32 => 68 | 26 => 62 | 0 => 0 | 44 => 74 | 46 => 98 | 4 => 4 | 36 => 89 | 35 => 88 | 41 => 94 | 5 => 5 | 9 => 9 | 53 => 99 | 57 => 103 | 63 => 109 | 64 => 110 | n => n, fun | n => n⟩
theorem Try.sort43 : Go.Proofs.SlLaysM.n6 Try.prog Try.sort43_ren := {
  mixed := by kernel_rfl
  f6 := ⟨Try.f43.name, by decide, Try.func43.trans (congrArg some (by kernel_rfl))⟩
  f8 := Try.func49.trans (congrArg some (by kernel_rfl))
  f9 := ⟨Try.f48.name, by decide, Try.func48.trans (congrArg some (by kernel_rfl))⟩
  f19 := Try.func60.trans (congrArg some (by kernel_rfl))
  f20 := Try.func61.trans (congrArg some (by kernel_rfl))
  f21 := ⟨Try.f51.name, by decide, Try.func51.trans (congrArg some (by kernel_rfl))⟩
  f22 := ⟨Try.f52.name, by decide, Try.func52.trans (congrArg some (by kernel_rfl))⟩
  f23 := ⟨Try.f53.name, by decide, Try.func53.trans (congrArg some (by kernel_rfl))⟩
  f24 := ⟨Try.f54.name, by decide, Try.func54.trans (congrArg some (by kernel_rfl))⟩
  f25 := ⟨Try.f55.name, by decide, Try.func55.trans (congrArg some (by kernel_rfl))⟩
  f26 := ⟨Try.f56.name, by decide, Try.func56.trans (congrArg some (by kernel_rfl))⟩
  f27 := ⟨Try.f57.name, by decide, Try.func57.trans (congrArg some (by kernel_rfl))⟩
  f28 := ⟨Try.f58.name, by decide, Try.func58.trans (congrArg some (by kernel_rfl))⟩
  f29 := ⟨Try.f59.name, by decide, Try.func59.trans (congrArg some (by kernel_rfl))⟩
  f31 := Try.func65.trans (congrArg some (by kernel_rfl))
  f32 := Try.func66.trans (congrArg some (by kernel_rfl))
  f36 := ⟨Try.f64.name, by decide, Try.func64.trans (congrArg some (by kernel_rfl))⟩
  f37 := ⟨Try.f67.name, by decide, Try.func67.trans (congrArg some (by kernel_rfl))⟩
  f38 := ⟨Try.f68.name, by decide, Try.func68.trans (congrArg some (by kernel_rfl))⟩
  f39 := ⟨Try.f69.name, by decide, Try.func69.trans (congrArg some (by kernel_rfl))⟩
  f41 := ⟨Try.f73.name, by decide, Try.func73.trans (congrArg some (by kernel_rfl))⟩
  t0 := Try.underlying0
  a0 := Try.isAgg0
  z0 := Try.sizeOf0
  v0 := Try.zeroValue0
  t3 := Try.underlying3
  a3 := Try.isAgg3
  z3 := Try.sizeOf3
  v3 := Try.zeroValue3
  t4 := Try.underlying4
  a4 := Try.isAgg4
  z4 := Try.sizeOf4
  v4 := Try.zeroValue4
  t5 := Try.underlying5
  a5 := Try.isAgg5
  z5 := Try.sizeOf5
  v5 := Try.zeroValue5
  t9 := Try.underlying9
  a9 := Try.isAgg9
  z9 := Try.sizeOf9
  v9 := Try.zeroValue9
  t26 := Try.underlying62
  a26 := Try.isAgg62
  z26 := Try.sizeOf62
  v26 := Try.zeroValue62
  t27 := Try.underlying62
  a27 := Try.isAgg62
  z27 := Try.sizeOf62
  v27 := Try.zeroValue62
  t29 := Try.underlying9
  a29 := Try.isAgg9
  z29 := Try.sizeOf9
  v29 := Try.zeroValue9
  t32 := Try.underlying68
  a32 := Try.isAgg68
  z32 := Try.sizeOf68
  v32 := Try.zeroValue68
  t35 := Try.underlying88
  a35 := Try.isAgg88
  z35 := Try.sizeOf88
  v35 := Try.zeroValue88
  t36 := Try.underlying89
  a36 := Try.isAgg89
  z36 := Try.sizeOf89
  v36 := Try.zeroValue89
  t41 := Try.underlying94
  a41 := Try.isAgg94
  z41 := Try.sizeOf94
  v41 := Try.zeroValue94
  t44 := Try.underlying74
  a44 := Try.isAgg74
  z44 := Try.sizeOf74
  v44 := Try.zeroValue74
  t46 := Try.underlying98
  a46 := Try.isAgg98
  z46 := Try.sizeOf98
  v46 := Try.zeroValue98
  t53 := Try.underlying99
  a53 := Try.isAgg99
  z53 := Try.sizeOf99
  v53 := Try.zeroValue99
  t57 := Try.underlying103
  a57 := Try.isAgg103
  z57 := Try.sizeOf103
  v57 := Try.zeroValue103
  t63 := Try.underlying109
  a63 := Try.isAgg109
  z63 := Try.sizeOf109
  v63 := Try.zeroValue109
  t64 := Try.underlying110
  a64 := Try.isAgg110
  z64 := Try.sizeOf110
  v64 := Try.zeroValue110 }


theorem Try.sorts37 (m : Nat) : AnyZ.SortsIn Try.prog Try.sorted37_ren Fence.wide m :=
  ⟨fun blk off cap ss W hH hblk hsz => callsIn_wide.2 (AnyM.slices_Sort_string Try.sort43 blk off cap ss W hH hblk hsz),
   fun p cap W => callsIn_wide.2 (AnyM.slices_Sort_string_none Try.sort43 p cap W)⟩

theorem Try.maps_Keys_38 (mb : Option Nat) (W : World) : CallsIn Fence.wide 5 Try.prog 38 #[.map mb] W fun e w' => e = .returned (.func (.func 44) #[] #[.pointer (some ⟨W.heap.size, 0, none⟩)]) ∧ w' = W.alloc (.cells #[.map mb] 41) :=
  AnyZ.keys_in Try.keys38 Fence.wide 5 trivial rfl mb W

set_option maxHeartbeats 1000000 in
theorem Try.slices_Sorted_keys_37_38 {H : Type} (b nn : Nat) (D0 : DataW H) (R : Value → Option (DataW H × List MemPlace)) (w : World) (hown : w.ownsMap Try.prog 9 R b nn D0) (hmax : Maps.size D0 ≤ maxLen) (hbytes : Maps.size D0 * 16 ≤ 140737488355328) :
    CallsIn Fence.wide 5 Try.prog 37 #[.func (.func 44) #[] #[.pointer (some ⟨w.heap.size, 0, none⟩)]] (w.alloc (.cells #[.map (some b)] 41)) fun e w' => ∃ (v : Value) (ss : List (List UInt8)), e = .returned v ∧ ss.Perm (strKeys D0) ∧
      w'.ownsRow (w.alloc (.cells #[.map (some b)] 41)).heap.size 9 1 v ss.length ((ss.mergeSort (fun x y => decide (x ≤ y))).map encStr) ∧ (v = .slice none 0 0 ↔ ss = []) ∧ Below (w.alloc (.cells #[.map (some b)] 41)).heap.size (w.alloc (.cells #[.map (some b)] 41)) w' := by
  have hbl := hown.lt
  have hseq : SeqGives Fence.wide 2 Try.prog 44 #[.pointer (some ⟨w.heap.size, 0, none⟩)] encStr (fun ss => ss.Perm (strKeys D0)) (Maps.size D0) (w.alloc (.cells #[.map (some b)] 41)) :=
    AnyZ.keys_gives (ρ := Try.keys38_ren) { Try.keys38 with } Fence.wide _ trivial rfl (by omega) w.heap.size b nn D0 _ (by simp) (by simp) (by
      obtain ⟨es, clock, hb, Ft, hs, hD⟩ := hown
      exact ⟨es, clock, (Below.heap_alloc _ _ b hbl).trans hb, Ft, hs, hD⟩)
  exact AnyZ.sorted_in Try.sorted37 Fence.wide 5 trivial trivial trivial trivial rfl (by omega) (Try.sorts37 _) (enters_of Try.func43 (by kernel_rfl) rfl) 44 #[.pointer (some ⟨w.heap.size, 0, none⟩)] trivial (enters_of Try.func44 (by kernel_rfl) rfl) _ _ hmax hbytes _ hseq

set_option maxHeartbeats 1000000 in
theorem Try.slices_Sorted_keys_nil_37_38 (w : World) :
    CallsIn Fence.wide 5 Try.prog 37 #[.func (.func 44) #[] #[.pointer (some ⟨w.heap.size, 0, none⟩)]] (w.alloc (.cells #[.map none] 41)) fun e w' => ∃ (v : Value) (ss : List (List UInt8)), e = .returned v ∧ ss = [] ∧
      w'.ownsRow (w.alloc (.cells #[.map none] 41)).heap.size 9 1 v ss.length ((ss.mergeSort (fun x y => decide (x ≤ y))).map encStr) ∧ (v = .slice none 0 0 ↔ ss = []) ∧ Below (w.alloc (.cells #[.map none] 41)).heap.size (w.alloc (.cells #[.map none] 41)) w' := by
  have hseq : SeqGives Fence.wide 2 Try.prog 44 #[.pointer (some ⟨w.heap.size, 0, none⟩)] encStr (fun ss : List (List UInt8) => ss = []) 0 (w.alloc (.cells #[.map none] 41)) :=
    AnyZ.keys_gives_nil (ρ := Try.keys38_ren) { Try.keys38 with } Fence.wide _ trivial rfl w.heap.size _ (by simp) (by simp)
  exact AnyZ.sorted_in Try.sorted37 Fence.wide 5 trivial trivial trivial trivial rfl (by omega) (Try.sorts37 _) (enters_of Try.func43 (by kernel_rfl) rfl) 44 #[.pointer (some ⟨w.heap.size, 0, none⟩)] trivial (enters_of Try.func44 (by kernel_rfl) rfl) _ 0 (Nat.zero_le _) (by omega) _ hseq



end Go.Proofs.Ytmehneicdklfeaa.iter

namespace Go.Proofs.Ytmehneicdklfeaa.dsk
open Go.RowKit Go.Maps Go.Sort Go.Proofs.Ytmehneicdklfeaa.sum Go.Proofs.Ytmehneicdklfeaa.kept Go.Proofs.Ytmehneicdklfeaa.app Go.Proofs.Ytmehneicdklfeaa.writer Go.Proofs.Ytmehneicdklfeaa.clone Go.Proofs.Ytmehneicdklfeaa.unseal Go.Proofs.Ytmehneicdklfeaa.fs Go.Proofs.Ytmehneicdklfeaa.fsMem Go.Proofs.Ytmehneicdklfeaa.fsDo Go.Proofs.Ytmehneicdklfeaa.fsUsed Go.Proofs.Ytmehneicdklfeaa.turned
set_option linter.unusedVariables false

theorem kp_below {w w' : World} (h : Go.RowKit.Below w.heap.size w w') : Kp No w w' := ⟨h.os, h.tape, h.output, h.size, fun k hk _ => h.block k hk⟩

theorem keys_dat (val : Name → Value) (es : Files) : strKeys (dat val es) = namesOf es := by
  show (es.map fun e => (Lit.string e.1, DataW.held (val e.1))).map (fun p => strOf p.1) = namesOf es
  rw [List.map_map]
  rfl

/-- what Names leaves -/
def NmPost (w : World) (es : Files) (e : Ending) (w' : World) : Prop := ∃ v, e = .returned v ∧ w'.ownsRow w.heap.size 9 1 v es.length ((namesOf es).map encStr) ∧ Kp No w w'

set_option maxRecDepth 100000 in
set_option maxHeartbeats 2000000 in
theorem names_up (w : World) (base p : Nat) (ρ : Nat → Role) (d : DSt) (h : Dk w base p ρ d) (hd : d.down = false) (hl : d.now.length ≤ 1000000000) :
    Calls Try.prog 27 #[.pointer (some ⟨p, 0, none⟩)] w (NmPost w d.now) := by
  obtain ⟨s, nn, vp, ps, h⟩ := h
  have c2 := h.c2
  have c4 := h.c4
  rw [hd] at c2
  obtain ⟨h1, h2, h3, val, h4, h5⟩ := h.now
  have hsz : Maps.size (dat val d.now) = d.now.length := dat_size val d.now
  have hk := fun W => callsIn_wide.1 (iter.Try.maps_Keys_38 (some nn) W)
  have hs := callsIn_wide.1 (iter.Try.slices_Sorted_keys_37_38 nn d.now.length (dat val d.now) raw w h4 (by rw [hsz]; unfold maxLen; omega) (by rw [hsz]; omega))
  have HK := fun W => Hid_mk (hk W)
  have HS := Hid_mk hs
  have HR := Hid_mk h1
  clear hk hs h h1 h2 h3 h4 h5 hsz
  go_enter Try.func27, Try.ntmps27
  go_wp2_with fail
  with_reducible refine (HK _).out.mono ?_
  rintro e w' ⟨rfl, rfl⟩
  go_wp2_with fail
  with_reducible refine HS.out.mono ?_
  rintro e w2 ⟨v, ss, rfl, hperm, hrow, hnil, hb⟩
  have hsort := names_sorted HR.out (keys_dat val d.now ▸ hperm)
  have hlen : ss.length = d.now.length := by
    have := hperm.length_eq
    rw [keys_dat] at this
    rw [this]
    exact List.length_map _
  have hfin : NmPost w d.now (.returned v) w2 := ⟨v, rfl, by
    rw [hsort, hlen] at hrow
    exact owns_base hrow (by simp), ((Kp.refl No w).alloc _).trans' (kp_below hb)⟩
  have HF := Hid_mk hfin
  obtain ⟨av, cv, rfl⟩ : ∃ a c, v = .slice a ss.length c := by
    rcases hrow.2 with ⟨rfl, hz⟩ | ⟨g, cap, cur, rfl, -⟩
    · exact ⟨none, 0, by rw [hz]⟩
    · exact ⟨_, _, rfl⟩
  clear hfin hrow hb hnil hperm hsort hlen
  go_wp2
  go_ret
  exact HF.out

end Go.Proofs.Ytmehneicdklfeaa.dsk

namespace Go.Proofs.Ytmehneicdklfeaa.dsk
open Go.RowKit Go.Maps Go.Proofs.Ytmehneicdklfeaa.sum Go.Proofs.Ytmehneicdklfeaa.kept Go.Proofs.Ytmehneicdklfeaa.app Go.Proofs.Ytmehneicdklfeaa.writer Go.Proofs.Ytmehneicdklfeaa.clone Go.Proofs.Ytmehneicdklfeaa.unseal Go.Proofs.Ytmehneicdklfeaa.fs Go.Proofs.Ytmehneicdklfeaa.fsMem Go.Proofs.Ytmehneicdklfeaa.fsDo Go.Proofs.Ytmehneicdklfeaa.fsUsed Go.Proofs.Ytmehneicdklfeaa.turned
set_option linter.unusedVariables false

set_option maxRecDepth 100000 in
theorem names_down (w : World) (base p : Nat) (ρ : Nat → Role) (d : DSt) (h : Dk w base p ρ d) (hd : d.down = true) : Calls Try.prog 27 #[.pointer (some ⟨p, 0, none⟩)] w fun e w' => e = .returned (.slice none 0 0) ∧ w = w' := by
  obtain ⟨s, nn, vp, ps, h⟩ := h
  have c2 := h.c2
  rw [hd] at c2
  clear h hd
  go_enter Try.func27, Try.ntmps27
  go_wp2
  go_ret
  exact ⟨rfl, rfl⟩

end Go.Proofs.Ytmehneicdklfeaa.dsk

namespace Go.Proofs.Ytmehneicdklfeaa.snp
open Go.RowKit Go.Maps Go.Sort Go.Proofs.Ytmehneicdklfeaa.sum Go.Proofs.Ytmehneicdklfeaa.kept Go.Proofs.Ytmehneicdklfeaa.app Go.Proofs.Ytmehneicdklfeaa.writer Go.Proofs.Ytmehneicdklfeaa.clone Go.Proofs.Ytmehneicdklfeaa.fs Go.Proofs.Ytmehneicdklfeaa.fsDo Go.Proofs.Ytmehneicdklfeaa.dsk Go.Proofs.Ytmehneicdklfeaa.r2 Go.Proofs.Ytmehneicdklfeaa.pair
set_option linter.unusedVariables false

/-- a slice of names, read -/
def Nr (w : World) (v : Value) (ns : List Name) : Prop :=
  ∃ a cap, v = .slice a ns.length cap ∧ ns.length ≤ cap ∧ cap ≤ 9223372036854775807 ∧ (ns ≠ [] → ∃ b, a = some ⟨b, 0, none⟩ ∧ ∀ k (h : k < ns.length), w.cell? ⟨b, k, none⟩ = some (encStr ns[k]))
theorem Nr.of_row {w : World} {base : Nat} {v : Value} {ns : List Name} (h : w.ownsRow base 9 1 v ns.length (ns.map encStr)) : Nr w v ns := by
  rcases h.2 with ⟨rfl, h0⟩ | ⟨g, cap, cur, rfl, hb, hg, r1, r2, r3, r4⟩
  · have : ns = [] := List.eq_nil_of_length_eq_zero h0
    subst this
    exact ⟨none, 0, rfl, Nat.le_refl _, by decide, fun h => absurd rfl h⟩
  · refine ⟨_, cap, rfl, r1, by unfold maxLen at r2; omega, fun _ => ⟨g, rfl, fun k hk => ?_⟩⟩
    have := h.cells (g := g) rfl k (encStr ns[k]) (by simp [hk])
    rw [addr_add, Nat.zero_add] at this
    exact this

def NxRel (ns : List Name) (n : ByteArray) (w : World) (i : Value) (wr : World) : Prop := ∃ k : Nat, i = .int .i64 (k : Int) ∧ k ≤ ns.length ∧ (∀ j (h : j < ns.length), j < k → ns[j] ≠ nm n) ∧ w = wr
/-- what Index answers of a name -/
def NxPost (ns : List Name) (n : ByteArray) (w : World) (e : Ending) (w' : World) : Prop := (∃ i : Int, e = .returned (.int .i64 i) ∧ (0 ≤ i ↔ nm n ∈ ns)) ∧ w = w'

set_option maxRecDepth 100000 in
set_option maxHeartbeats 2000000 in
theorem nindex_any (w : World) (v : Value) (ns : List Name) (n : ByteArray) (h : Nr w v ns) (hl : ns.length ≤ 1000000000000) : Calls Try.prog 36 #[v, .string n] w (NxPost ns n w) := by
  obtain ⟨a, cap, rfl, h1, h2, h3⟩ := h
  have HC := Hid_mk h3
  clear h3
  go_enter Try.func36, Try.ntmps36
  go_wp2
  go_loopw [8] (fun i wr => NxRel ns n w i wr) (fun i _ => ns.length - (intOf i).toNat)
  case atStart => exact ⟨0, rfl, Nat.zero_le _, fun _ _ h => absurd h (Nat.not_lt_zero _), rfl⟩
  case round =>
    obtain ⟨k, rfl, hk, hb, rfl⟩ := hrel
    have HB := Hid_mk hb
    clear hb
    by_cases hlt : k < ns.length
    · have hki : (k : Int) < (ns.length : Int) := by omega
      have hk0 : (0 : Int) ≤ (k : Int) := Int.natCast_nonneg _
      obtain ⟨b, rfl, hc⟩ := HC.out (by intro e; rw [e] at hlt; simp at hlt)
      obtain ⟨x, hx⟩ : ∃ x : ByteArray, x = ⟨ns[k].toArray⟩ := ⟨_, rfl⟩
      have c0 : w.cell? ⟨b, k, none⟩ = some (.string x) := (hc k hlt).trans (congrArg (fun y => some (Value.string y)) hx.symm)
      have hnx : nm x = ns[k] := by rw [hx]; rfl
      have HLt := Hid_mk hlt
      by_cases he : n = x
      · have HP : Hid (NxPost ns n w (.returned (.int .i64 (k : Int))) w) := Hid_mk ⟨⟨_, rfl, fun _ => by rw [he, hnx]; exact List.getElem_mem hlt, fun _ => hk0⟩, rfl⟩
        subst he
        clear hc hx hlt hnx
        go_wp2
        go_ret
        exact HP.out
      · have HN := Hid_mk (show NxRel ns n w (.int .i64 ((k : Int) + 1)) w from ⟨k + 1, by push_cast; rfl, hlt, fun j hj hjk => by
          by_cases e : j = k
          · subst e; exact fun e2 => he (nm_inj (hnx.trans e2)).symm
          · exact HB.out j hj (by omega), rfl⟩)
        have hxn := txt_ne he
        clear hc hx hlt he hnx
        go_wp2
        go_roundw
        case rel => exact HN.out
        case measure => have := HLt.out; simp only [intOf]; omega
    · have hki : ¬ (k : Int) < (ns.length : Int) := by omega
      have HP : Hid (NxPost ns n w (.returned (.int .i64 (-1))) w) := Hid_mk ⟨⟨-1, rfl, fun h => absurd h (by decide), fun hm => by
        obtain ⟨j, hj, e⟩ := List.getElem_of_mem hm
        exact absurd e (HB.out j hj (by omega))⟩, rfl⟩
      clear hlt
      go_wp2
      go_ret
      exact HP.out

set_option maxRecDepth 100000 in
set_option maxHeartbeats 2000000 in
theorem ncontains_any (w : World) (v : Value) (ns : List Name) (n : ByteArray) (b : Bool) (h : Nr w v ns) (hl : ns.length ≤ 1000000000000) (hb : b = true ↔ nm n ∈ ns) : Calls Try.prog 26 #[v, .string n] w fun e w' => e = .returned (.bool b) ∧ w = w' := by
  have HI := Hid_mk (nindex_any w v ns n h hl)
  have HB := Hid_mk hb
  clear h hb hl
  go_enter Try.func26, Try.ntmps26
  go_wp2_with fail
  with_reducible refine HI.out.mono ?_
  rintro e w1 ⟨⟨i, rfl, hi⟩, rfl⟩
  have hbi : b = decide (0 ≤ i) := by
    rw [Bool.eq_iff_iff, HB.out, decide_eq_true_iff]
    exact hi.symm
  have HBi := Hid_mk hbi
  clear hbi hi
  have hfin : (Ending.returned (Value.bool (decide (0 ≤ i))) = Ending.returned (Value.bool b)) := by rw [HBi.out]
  have HF := Hid_mk hfin
  clear hfin
  go_wp2
  go_ret
  exact ⟨HF.out, rfl⟩

theorem here_mem {d : DSt} (hd : d.down = false) (n : ByteArray) : hereB d n = true ↔ nm n ∈ namesOf d.now := by
  unfold hereB
  rw [hd]
  show (get d.now (nm n)).isSome = true ↔ _
  unfold namesOf
  constructor
  · intro h
    cases hg : get d.now (nm n) with
    | none => rw [hg] at h; cases h
    | some b =>
      by_cases hm : nm n ∈ d.now.map (·.1)
      · exact hm
      · have : get d.now (nm n) = none := get_none.2 fun p hp e => hm (by rw [← e]; exact List.mem_map_of_mem hp)
        rw [this] at hg; cases hg
  · intro hm
    cases hg : get d.now (nm n) with
    | some b => rfl
    | none =>
      obtain ⟨p, hp, e⟩ := List.mem_map.1 hm
      exact absurd e (get_none.1 hg p hp)

set_option maxRecDepth 100000 in
set_option maxHeartbeats 2000000 in
theorem has_any (w : World) (base p M : Nat) (ρ : Nat → Role) (d : DSt) (h : Dk w base p ρ d) (hok : OkN M d) (hM : M ≤ 1000) :
    Calls Try.prog 13 #[.pointer (some ⟨p, 0, none⟩)] w fun e w' => e = .returned (.bool (hereB d newN)) ∧ Kp No w w' := by
  have hl : d.now.length ≤ 1000 := by
    have := len_all hok.1.rising d.cs
    have := hok.1.few
    show (all d.syn d.cs).length ≤ 1000
    omega
  cases hd : d.down with
  | true =>
    have e1 : hereB d newN = false := by unfold hereB; rw [hd]; rfl
    rw [e1]
    have HN := Hid_mk (names_down w base p ρ d h hd)
    have HC := Hid_mk (ncontains_any w (.slice none 0 0) [] newN false ⟨none, 0, rfl, Nat.le_refl _, by decide, fun h => absurd rfl h⟩ (by decide) (by simp))
    clear h hok e1
    go_enter Try.func13, Try.ntmps13
    go_wp2_with fail
    with_reducible refine HN.out.mono ?_
    rintro e w1 ⟨rfl, rfl⟩
    go_wp2_with fail
    with_reducible refine HC.out.mono ?_
    rintro e w2 ⟨rfl, rfl⟩
    go_wp2
    go_ret
    exact ⟨rfl, Kp.refl _ _⟩
  | false =>
    have HN := Hid_mk (names_up w base p ρ d h hd (by omega))
    have HM := Hid_mk (here_mem hd newN)
    have HL := Hid_mk hl
    obtain ⟨b, hb⟩ : ∃ b, b = hereB d newN := ⟨_, rfl⟩
    rw [← hb] at HM ⊢
    clear h hok hl hb
    go_enter Try.func13, Try.ntmps13
    go_wp2_with fail
    with_reducible refine HN.out.mono ?_
    rintro e w1 ⟨v, rfl, ho, hk⟩
    have hlen : (namesOf d.now).length = d.now.length := List.length_map _
    have HC := Hid_mk (ncontains_any w1 v (namesOf d.now) newN b (Nr.of_row (hlen ▸ ho)) (by have := HL.out; omega) HM.out)
    have HK := Hid_mk hk
    clear hk ho hlen
    go_wp2_with fail
    with_reducible refine HC.out.mono ?_
    rintro e w2 ⟨rfl, rfl⟩
    go_wp2
    go_ret
    exact ⟨rfl, HK.out⟩

end Go.Proofs.Ytmehneicdklfeaa.snp
