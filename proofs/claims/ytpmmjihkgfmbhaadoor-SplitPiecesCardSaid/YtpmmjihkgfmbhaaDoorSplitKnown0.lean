/- The laws' first lines: chapter 7's first example, over what is asked of the project's Splitter. -/
import Derived.Test.YtpmmjihkgfmbhaaDoorSplitC
import Derived.Test.YtpmmjihkgfmbhaaDoorSplitRecs
import Derived.Test.YtpmmjihkgfmbhaaDoorKnown0
import Derived.Test.YtpmmjihkgfmbhaaDoorCuts0
import Derived.Lib.SlBytesConst
namespace Go.Proofs.YtpmmjihkgfmbhaaDoor.spl
open Go.RowKit Go.Maps Go.Proofs.YtpmmjihkgfmbhaaDoor.sum Go.Proofs.YtpmmjihkgfmbhaaDoor.kept Go.Proofs.YtpmmjihkgfmbhaaDoor.app Go.Proofs.YtpmmjihkgfmbhaaDoor.writer Go.Proofs.YtpmmjihkgfmbhaaDoor.clone Go.Proofs.YtpmmjihkgfmbhaaDoor.known Go.Proofs.YtpmmjihkgfmbhaaDoor.unseal Go.Proofs.YtpmmjihkgfmbhaaDoor.snp
set_option linter.unusedVariables false

def spOf (h : List UInt8) (o : Bool) (r : List UInt8) : SpS := ⟨h, o, false, r⟩

section
variable {Sp : SpT} {w w1 : World} {base p m : Nat} {ρ : Nat → Bool} {s t : SpS}
/-- a call beside a world that is let be -/
theorem SplitC.step (C : SplitC Sp) (hs : Sp w1 base p ρ m s) (hk : Kp No w w1) (hb : w.heap.size ≤ base) {f : FuncId} {args : Array Value} {res : Value} (h : Calls Tryd.prog f args w1 (SpPost Sp w1 base p ρ m t res)) :
    Calls Tryd.prog f args w1 fun e w2 => e = .returned res ∧ Hid ((∃ ρ', Sp w2 base p ρ' m t) ∧ Kp No w w2) := by
  refine h.mono ?_
  rintro e w2 ⟨he, ρ', h1, h2⟩
  exact ⟨he, Hid_mk ⟨⟨ρ', h1⟩, hk.trans h2.1 fun i hi e2 => by have := (C.low hs i e2).1; omega⟩⟩
theorem SplitC.new_low (C : SplitC Sp) (hs : Sp w1 base p ρ m s) {k : Nat} (hk : w1.heap.size ≤ k) : ρ k = false := by
  cases hρ : ρ k with
  | false => rfl
  | true => have := (C.low hs k hρ).2; omega
end

set_option maxRecDepth 100000 in
set_option maxHeartbeats 4000000 in
theorem splitknown_any {Sp : SpT} (C : SplitC Sp) (w : World) : Calls Tryd.prog 8 #[] w fun e w' => e = .returned (.bool true) ∧ Kp No w w' := by
  have kc := fun (w : World) (D : Array Value) (n c : Nat) => Lib.run_convert_bytes_const (P := Tryd.prog) w 30 5 D n c Tryd.underlying30 Tryd.underlying5
  have HN := Hid_mk (show Calls Tryd.prog 7 #[.int .i64 4] w _ from C.new_ok w 4 (by omega) (by omega))
  go_enter Tryd.func8, Tryd.ntmps8
  go_wp2_with fail
  with_reducible refine HN.out.mono ?_
  rintro e w1 ⟨p, ρ1, rfl, hs1, hk1⟩
  have HS1 := Hid_mk hs1
  have HK1 := Hid_mk hk1
  clear HN hs1 hk1
  have kk1 : Kp No w1 (w1.alloc (.cells #[.int .u8 97, .int .u8 98] 5 (2, 3))) := (Kp.refl _ _).alloc _
  have HF1 : Hid (Calls Tryd.prog 10 #[.pointer (some ⟨p, 0, none⟩), .slice (some ⟨w1.heap.size, 0, none⟩) 2 2] (w1.alloc (.cells #[.int .u8 97, .int .u8 98] 5 (2, 3))) fun e w2 => e = .returned (.tuple #[]) ∧ Hid ((∃ ρ', Sp w2 w.heap.size p ρ' 4 (spOf [] false [97, 98])) ∧ Kp No w w2)) :=
    Hid_mk (C.step (C.no HS1.out kk1) (HK1.out.trans' kk1) (Nat.le_refl _) (C.feed _ w.heap.size p ρ1 4 zeroS _ [97, 98] (C.no HS1.out kk1) (bs_lit w1 [97, 98] (2, 3) (by decide)) (fun _ x o n c e => by cases e; exact C.new_low HS1.out (Nat.le_refl _)) (by decide)))
  go_wp2_with fail
  with_reducible refine HF1.out.mono ?_
  rintro e w2 ⟨rfl, H2⟩
  obtain ⟨⟨ρ2, hs2⟩, hk2⟩ := H2.out
  have HX2 : Hid (Calls Tryd.prog 11 #[.pointer (some ⟨p, 0, none⟩), .string ⟨#[10]⟩] w2 fun e w3 => e = .returned (.tuple #[.string ⟨#[]⟩, .bool false]) ∧ Hid ((∃ ρ', Sp w3 w.heap.size p ρ' 4 (spOf [97, 98] false [])) ∧ Kp No w w3)) :=
    Hid_mk (C.step hs2 hk2 (Nat.le_refl _) (C.next w2 w.heap.size p ρ2 4 _ [10] hs2 (by show 0 ≤ 4; omega) (by omega) (by decide) (by decide)))
  clear hs2 hk2 H2 HF1 kk1 HS1
  go_wp2_with fail
  with_reducible refine HX2.out.mono ?_
  rintro e w3 ⟨rfl, H3⟩
  obtain ⟨⟨ρ3, hs3⟩, hk3⟩ := H3.out
  have kk3 : Kp No w3 (w3.alloc (.cells #[.int .u8 99, .int .u8 10, .int .u8 100] 5 (3, 4))) := (Kp.refl _ _).alloc _
  have HF4 : Hid (Calls Tryd.prog 10 #[.pointer (some ⟨p, 0, none⟩), .slice (some ⟨w3.heap.size, 0, none⟩) 3 3] (w3.alloc (.cells #[.int .u8 99, .int .u8 10, .int .u8 100] 5 (3, 4))) fun e w4 => e = .returned (.tuple #[]) ∧ Hid ((∃ ρ', Sp w4 w.heap.size p ρ' 4 (spOf [97, 98] false [99, 10, 100])) ∧ Kp No w w4)) :=
    Hid_mk (C.step (C.no hs3 kk3) (hk3.trans' kk3) (Nat.le_refl _) (C.feed _ w.heap.size p ρ3 4 _ _ [99, 10, 100] (C.no hs3 kk3) (bs_lit w3 [99, 10, 100] (3, 4) (by decide)) (fun _ x o n c e => by cases e; exact C.new_low hs3 (Nat.le_refl _)) (by decide)))
  clear hs3 hk3 kk3 H3
  go_wp2_with fail
  with_reducible refine HF4.out.mono ?_
  rintro e w4 ⟨rfl, H4⟩
  obtain ⟨⟨ρ4, hs4⟩, hk4⟩ := H4.out
  clear HF4 H4
  have HX5 : Hid (Calls Tryd.prog 11 #[.pointer (some ⟨p, 0, none⟩), .string ⟨#[10]⟩] w4 fun e w5 => e = .returned (.tuple #[.string ⟨#[97, 98, 99]⟩, .bool true]) ∧ Hid ((∃ ρ', Sp w5 w.heap.size p ρ' 4 (spOf [] false [100])) ∧ Kp No w w5)) :=
    Hid_mk (C.step hs4 hk4 (Nat.le_refl _) (C.next w4 w.heap.size p ρ4 4 _ [10] hs4 (by unfold OkS spOf; decide) (by omega) (by decide) (by decide)))
  go_wp2_with fail
  with_reducible refine HX5.out.mono ?_
  rintro e w5 ⟨rfl, H5⟩
  obtain ⟨⟨ρ5, hs5⟩, hk5⟩ := H5.out
  clear HX5 hs4 hk4 H5
  have HX6 : Hid (Calls Tryd.prog 11 #[.pointer (some ⟨p, 0, none⟩), .string ⟨#[10]⟩] w5 fun e w6 => e = .returned (.tuple #[.string ⟨#[]⟩, .bool false]) ∧ Hid ((∃ ρ', Sp w6 w.heap.size p ρ' 4 (spOf [100] false [])) ∧ Kp No w w6)) :=
    Hid_mk (C.step hs5 hk5 (Nat.le_refl _) (C.next w5 w.heap.size p ρ5 4 _ [10] hs5 (by unfold OkS spOf; decide) (by omega) (by decide) (by decide)))
  go_wp2_with fail
  with_reducible refine HX6.out.mono ?_
  rintro e w6 ⟨rfl, H6⟩
  obtain ⟨⟨ρ6, hs6⟩, hk6⟩ := H6.out
  clear HX6 hs5 hk5 H6
  have HX7 : Hid (Calls Tryd.prog 14 #[.pointer (some ⟨p, 0, none⟩), .string ⟨#[10]⟩] w6 fun e w7 => e = .returned (.tuple #[.string ⟨#[100]⟩, .bool true]) ∧ Hid ((∃ ρ', Sp w7 w.heap.size p ρ' 4 (spOf [] false [])) ∧ Kp No w w7)) :=
    Hid_mk (C.step hs6 hk6 (Nat.le_refl _) (C.last w6 w.heap.size p ρ6 4 _ [10] hs6 (by unfold OkS spOf; decide) (by omega) (by decide) (by decide)))
  go_wp2_with fail
  with_reducible refine HX7.out.mono ?_
  rintro e w7 ⟨rfl, H7⟩
  obtain ⟨⟨ρ7, hs7⟩, hk7⟩ := H7.out
  clear HX7 hs6 hk6 H7
  have HX8 : Hid (Calls Tryd.prog 14 #[.pointer (some ⟨p, 0, none⟩), .string ⟨#[10]⟩] w7 fun e w8 => e = .returned (.tuple #[.string ⟨#[]⟩, .bool false]) ∧ Hid ((∃ ρ', Sp w8 w.heap.size p ρ' 4 (spOf [] false [])) ∧ Kp No w w8)) :=
    Hid_mk (C.step hs7 hk7 (Nat.le_refl _) (C.last w7 w.heap.size p ρ7 4 _ [10] hs7 (by unfold OkS spOf; decide) (by omega) (by decide) (by decide)))
  go_wp2_with fail
  with_reducible refine HX8.out.mono ?_
  rintro e w8 ⟨rfl, H8⟩
  obtain ⟨⟨ρ8, hs8⟩, hk8⟩ := H8.out
  clear HX8 hs7 hk7 H8
  have HK8 := Hid_mk hk8
  clear hs8 hk8
  go_wp2
  go_ret
  exact ⟨rfl, HK8.out⟩

end Go.Proofs.YtpmmjihkgfmbhaaDoor.spl
