/- The statement SplitKnown: its walk. -/
import Derived.Test.YtpmmjihkgfmbhaaSpAll
import Derived.Test.YtpmmjihkgfmbhaaSplitKnown0
namespace Go.Proofs.Ytpmmjihkgfmbhaa.spl
open Go.RowKit Go.Maps Go.Proofs.Ytpmmjihkgfmbhaa.sum Go.Proofs.Ytpmmjihkgfmbhaa.kept Go.Proofs.Ytpmmjihkgfmbhaa.app Go.Proofs.Ytpmmjihkgfmbhaa.writer Go.Proofs.Ytpmmjihkgfmbhaa.clone Go.Proofs.Ytpmmjihkgfmbhaa.known Go.Proofs.Ytpmmjihkgfmbhaa.unseal Go.Proofs.Ytpmmjihkgfmbhaa.snp
set_option linter.unusedVariables false

set_option maxRecDepth 100000 in
set_option maxHeartbeats 8000000 in
theorem splitKnown_any (w : World) : Calls Try.prog 3 #[] w fun e w' => e = .returned (.bool true) ∧ Kp No w w' := by
  have kc := fun (w : World) (D : Array Value) (n c : Nat) => Lib.run_convert_bytes_const (P := Try.prog) w 28 5 D n c Try.underlying28 Try.underlying5
  have HA := Hid_mk (spnew_no w 0 (by omega))
  have HB := Hid_mk (spnew_no w 201 (by omega))
  have HN := Hid_mk (show Calls Try.prog 6 #[.int .i64 4] w _ from spnew_ok w 4 (by omega) (by omega))
  go_enter Try.func3, Try.ntmps3
  go_wp2_with fail
  with_reducible refine HA.out.mono ?_
  rintro e w1 ⟨rfl, hw⟩
  rw [hw]
  clear hw w1 HA
  go_wp2_with fail
  with_reducible refine HB.out.mono ?_
  rintro e w1 ⟨rfl, hw⟩
  rw [hw]
  clear hw w1 HB
  go_wp2_with fail
  with_reducible refine HN.out.mono ?_
  rintro e w1 ⟨p, ρ1, rfl, hs1, hk1⟩
  have HS1 := Hid_mk hs1
  have HK1 := Hid_mk hk1
  have HKn := Hid_mk (splitknown_any splitC w1)
  clear HN hs1 hk1
  go_wp2_with fail
  with_reducible refine HKn.out.mono ?_
  rintro e w2 ⟨rfl, hk2⟩
  have HS2 := Hid_mk (splitC.no HS1.out hk2)
  have HK2 := Hid_mk (HK1.out.trans' hk2)
  clear HKn hk2 HS1 HK1
  have HBase : Hid (w.heap.size ≤ w.heap.size) := Hid_mk (Nat.le_refl _)
  have kk2 : Kp No w2 (w2.alloc (.cells #[.int .u8 97, .int .u8 98, .int .u8 99, .int .u8 100, .int .u8 101, .int .u8 102, .int .u8 59, .int .u8 120] 5 (8, 9))) := (Kp.refl _ _).alloc _
  have HF2 : Hid (Calls Try.prog 8 #[.pointer (some ⟨p, 0, none⟩), .slice (some ⟨w2.heap.size, 0, none⟩) 8 8] (w2.alloc (.cells #[.int .u8 97, .int .u8 98, .int .u8 99, .int .u8 100, .int .u8 101, .int .u8 102, .int .u8 59, .int .u8 120] 5 (8, 9))) fun e w2 => e = .returned (.tuple #[]) ∧ Hid ((∃ ρ', PSp w2 w.heap.size p ρ' 4 (⟨[], false, false, [97, 98, 99, 100, 101, 102, 59, 120]⟩)) ∧ Kp No w w2)) :=
    Hid_mk (splitC.step (splitC.no HS2.out kk2) (HK2.out.trans' kk2) HBase.out (splitC.feed _ w.heap.size p _ 4 (zeroS) _ [97, 98, 99, 100, 101, 102, 59, 120] (splitC.no HS2.out kk2) (bs_lit w2 [97, 98, 99, 100, 101, 102, 59, 120] (8, 9) (by decide)) (fun _ x o n c e => by cases e; exact splitC.new_low HS2.out (Nat.le_refl _)) (by decide)))
  clear kk2
  go_wp2_with fail
  with_reducible refine HF2.out.mono ?_
  rintro e w3 ⟨rfl, H⟩
  obtain ⟨⟨ρ3, hs⟩, hk⟩ := H.out
  have HS3 := Hid_mk hs
  have HK3 := Hid_mk hk
  clear HF2 H hs hk HS2 HK2
  have HX3 : Hid (Calls Try.prog 9 #[.pointer (some ⟨p, 0, none⟩), .string ⟨#[59]⟩] w3 fun e w3 => e = .returned (.tuple #[.string ⟨#[97, 98, 99, 100]⟩, .bool true]) ∧ Hid ((∃ ρ', PSp w3 w.heap.size p ρ' 4 (⟨[], false, false, [120]⟩)) ∧ Kp No w w3)) :=
    Hid_mk (splitC.step HS3.out HK3.out HBase.out (splitC.next w3 w.heap.size p _ 4 (⟨[], false, false, [97, 98, 99, 100, 101, 102, 59, 120]⟩) [59] HS3.out (by unfold OkS; decide) (by omega) (by decide) (by decide)))
  go_wp2_with fail
  with_reducible refine HX3.out.mono ?_
  rintro e w4 ⟨rfl, H⟩
  obtain ⟨⟨ρ4, hs⟩, hk⟩ := H.out
  have HS4 := Hid_mk hs
  have HK4 := Hid_mk hk
  clear HX3 H hs hk HS3 HK3
  have HH := Hid_mk (held_any w4 w.heap.size p _ 4 _ HS4.out)
  simp only [List.length_nil, Int.natCast_zero] at HH
  go_wp2_with fail
  with_reducible refine HH.out.mono ?_
  rintro e w5 ⟨rfl, hw⟩
  rw [hw]
  clear hw w5 HH
  have HX4 : Hid (Calls Try.prog 11 #[.pointer (some ⟨p, 0, none⟩), .string ⟨#[59]⟩] w4 fun e w3 => e = .returned (.tuple #[.string ⟨#[120]⟩, .bool true]) ∧ Hid ((∃ ρ', PSp w3 w.heap.size p ρ' 4 (⟨[], false, false, []⟩)) ∧ Kp No w w3)) :=
    Hid_mk (splitC.step HS4.out HK4.out HBase.out (splitC.last w4 w.heap.size p _ 4 (⟨[], false, false, [120]⟩) [59] HS4.out (by unfold OkS; decide) (by omega) (by decide) (by decide)))
  go_wp2_with fail
  with_reducible refine HX4.out.mono ?_
  rintro e w5 ⟨rfl, H⟩
  obtain ⟨⟨ρ5, hs⟩, hk⟩ := H.out
  have HS5 := Hid_mk hs
  have HK5 := Hid_mk hk
  clear HX4 H hs hk HS4 HK4
  have HN := Hid_mk (show Calls Try.prog 6 #[.int .i64 4] w5 _ from spnew_ok w5 4 (by omega) (by omega))
  clear HS5
  go_wp2_with fail
  with_reducible refine HN.out.mono ?_
  rintro e w6 ⟨p2, ρ6, rfl, hs, hk⟩
  have HS6 := Hid_mk hs
  have HBase : Hid (w.heap.size ≤ w5.heap.size) := Hid_mk HK5.out.size
  have HK6 := Hid_mk (HK5.out.trans' hk)
  clear HN hs hk HK5
  have kk6 : Kp No w6 (w6.alloc (.cells #[.int .u8 10, .int .u8 10, .int .u8 97, .int .u8 10, .int .u8 98, .int .u8 10, .int .u8 10, .int .u8 10, .int .u8 99, .int .u8 10] 5 (10, 11))) := (Kp.refl _ _).alloc _
  have HF6 : Hid (Calls Try.prog 8 #[.pointer (some ⟨p2, 0, none⟩), .slice (some ⟨w6.heap.size, 0, none⟩) 10 10] (w6.alloc (.cells #[.int .u8 10, .int .u8 10, .int .u8 97, .int .u8 10, .int .u8 98, .int .u8 10, .int .u8 10, .int .u8 10, .int .u8 99, .int .u8 10] 5 (10, 11))) fun e w2 => e = .returned (.tuple #[]) ∧ Hid ((∃ ρ', PSp w2 w5.heap.size p2 ρ' 4 (⟨[], false, false, [10, 10, 97, 10, 98, 10, 10, 10, 99, 10]⟩)) ∧ Kp No w w2)) :=
    Hid_mk (splitC.step (splitC.no HS6.out kk6) (HK6.out.trans' kk6) HBase.out (splitC.feed _ w5.heap.size p2 _ 4 (zeroS) _ [10, 10, 97, 10, 98, 10, 10, 10, 99, 10] (splitC.no HS6.out kk6) (bs_lit w6 [10, 10, 97, 10, 98, 10, 10, 10, 99, 10] (10, 11) (by decide)) (fun _ x o n c e => by cases e; exact splitC.new_low HS6.out (Nat.le_refl _)) (by decide)))
  clear kk6
  go_wp2_with fail
  with_reducible refine HF6.out.mono ?_
  rintro e w7 ⟨rfl, H⟩
  obtain ⟨⟨ρ7, hs⟩, hk⟩ := H.out
  have HS7 := Hid_mk hs
  have HK7 := Hid_mk hk
  clear HF6 H hs hk HS6 HK6
  have HX7 : Hid (Calls Try.prog 9 #[.pointer (some ⟨p2, 0, none⟩), .string ⟨#[]⟩] w7 fun e w3 => e = .returned (.tuple #[.string ⟨#[97, 10, 98]⟩, .bool true]) ∧ Hid ((∃ ρ', PSp w3 w5.heap.size p2 ρ' 4 (⟨[], false, false, [10, 99, 10]⟩)) ∧ Kp No w w3)) :=
    Hid_mk (splitC.step HS7.out HK7.out HBase.out (splitC.next w7 w5.heap.size p2 _ 4 (⟨[], false, false, [10, 10, 97, 10, 98, 10, 10, 10, 99, 10]⟩) [] HS7.out (by unfold OkS; decide) (by omega) (by decide) (by decide)))
  go_wp2_with fail
  with_reducible refine HX7.out.mono ?_
  rintro e w8 ⟨rfl, H⟩
  obtain ⟨⟨ρ8, hs⟩, hk⟩ := H.out
  have HS8 := Hid_mk hs
  have HK8 := Hid_mk hk
  clear HX7 H hs hk HS7 HK7
  have HX8 : Hid (Calls Try.prog 9 #[.pointer (some ⟨p2, 0, none⟩), .string ⟨#[]⟩] w8 fun e w3 => e = .returned (.tuple #[.string ⟨#[]⟩, .bool false]) ∧ Hid ((∃ ρ', PSp w3 w5.heap.size p2 ρ' 4 (⟨[99], false, true, []⟩)) ∧ Kp No w w3)) :=
    Hid_mk (splitC.step HS8.out HK8.out HBase.out (splitC.next w8 w5.heap.size p2 _ 4 (⟨[], false, false, [10, 99, 10]⟩) [] HS8.out (by unfold OkS; decide) (by omega) (by decide) (by decide)))
  go_wp2_with fail
  with_reducible refine HX8.out.mono ?_
  rintro e w9 ⟨rfl, H⟩
  obtain ⟨⟨ρ9, hs⟩, hk⟩ := H.out
  have HS9 := Hid_mk hs
  have HK9 := Hid_mk hk
  clear HX8 H hs hk HS8 HK8
  have HX9 : Hid (Calls Try.prog 11 #[.pointer (some ⟨p2, 0, none⟩), .string ⟨#[]⟩] w9 fun e w3 => e = .returned (.tuple #[.string ⟨#[99]⟩, .bool true]) ∧ Hid ((∃ ρ', PSp w3 w5.heap.size p2 ρ' 4 (⟨[], false, false, []⟩)) ∧ Kp No w w3)) :=
    Hid_mk (splitC.step HS9.out HK9.out HBase.out (splitC.last w9 w5.heap.size p2 _ 4 (⟨[99], false, true, []⟩) [] HS9.out (by unfold OkS; decide) (by omega) (by decide) (by decide)))
  go_wp2_with fail
  with_reducible refine HX9.out.mono ?_
  rintro e w10 ⟨rfl, H⟩
  obtain ⟨⟨ρ10, hs⟩, hk⟩ := H.out
  have HS10 := Hid_mk hs
  have HK10 := Hid_mk hk
  clear HX9 H hs hk HS9 HK9
  clear HS10
  go_wp2
  go_ret
  exact ⟨rfl, HK10.out⟩

end Go.Proofs.Ytpmmjihkgfmbhaa.spl
