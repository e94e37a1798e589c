/- What every statement of chapter 2 asks first: the chapter's example. -/
import Derived.Test.YtomckoeobkfklaaDoorDiskSteps
import Derived.Test.YtomckoeobkfklaaDoorKnown0
import Derived.Lib.SlBytesConst
namespace Go.Proofs.YtomckoeobkfklaaDoor.dsk
open Go.RowKit Go.Maps Go.Proofs.YtomckoeobkfklaaDoor.sum Go.Proofs.YtomckoeobkfklaaDoor.kept Go.Proofs.YtomckoeobkfklaaDoor.app Go.Proofs.YtomckoeobkfklaaDoor.writer Go.Proofs.YtomckoeobkfklaaDoor.clone Go.Proofs.YtomckoeobkfklaaDoor.unseal Go.Proofs.YtomckoeobkfklaaDoor.fs Go.Proofs.YtomckoeobkfklaaDoor.fsMem Go.Proofs.YtomckoeobkfklaaDoor.fsDo Go.Proofs.YtomckoeobkfklaaDoor.fsUsed Go.Proofs.YtomckoeobkfklaaDoor.turned
set_option linter.unusedVariables false

abbrev ka : ByteArray := ⟨#[97]⟩
def kd1 : DSt := ⟨9, -1, false, [], [appC ka [120, 121, 122]]⟩
def kd2 : DSt := ⟨9, -1, false, [([97], [120, 121, 122])], []⟩
def kd3 : DSt := ⟨9, -1, false, [([97], [120, 121, 122])], [appC ka [49, 50]]⟩
def kd4 : DSt := ⟨9, -1, false, [([97], [120, 121, 122])], [appC ka [49, 50], remC ka]⟩
def kd5 : DSt := ⟨9, -1, false, [([97], [120, 121, 122, 49, 50])], []⟩
theorem ke1 : ({ stopD (newD 9) with cs := (newD 9).cs ++ [appC ka [120, 121, 122]] } : DSt) = kd1 := rfl
theorem ke2 : ({ stopD kd1 with syn := kd1.now, cs := [] } : DSt) = kd2 := rfl
theorem ke3 : ({ stopD kd2 with cs := kd2.cs ++ [appC ka [49, 50]] } : DSt) = kd3 := rfl
theorem ke4 : ({ stopD kd3 with cs := kd3.cs ++ [remC ka] } : DSt) = kd4 := rfl
theorem ke5 : crashD kd4 1 0 = kd5 := rfl
theorem kk5 : crashK kd4 1 = 1 := rfl
theorem ko1 : DOk 1 kd1 := ke1 ▸ append_ok (new_ok 9 (by omega) (by omega)) (by decide) (by decide)
theorem ko2 : DOk 1 kd2 := ke2 ▸ sync_ok ko1
theorem ko3 : DOk 2 kd3 := ke3 ▸ append_ok ko2 (by decide) (by decide)
theorem ko4 : DOk 3 kd4 := ke4 ▸ remove_ok ko3 (by decide)

theorem bs_lit (w : World) (bs : List UInt8) (fr : Nat × Nat) (hl : bs.length ≤ maxLen) : Bs (w.alloc (.cells (bs.map B).toArray 5 fr)) (.slice (some ⟨w.heap.size, 0, none⟩) bs.length bs.length) bs := by
  refine ⟨_, _, rfl, Nat.le_refl _, hl, fun _ => ⟨_, _, rfl, fun k hk => ?_⟩⟩
  rw [World.cell?_alloc_mark]
  simp [List.getD, hk]

set_option maxRecDepth 100000 in
set_option maxHeartbeats 4000000 in
theorem known_any (w : World) : Calls Tryd.prog 5 #[] w fun e w' => e = .returned (.bool true) ∧ Kp No w w' := by
  have kc := fun (w : World) (C : Array Value) (n c : Nat) => Lib.run_convert_bytes_const (P := Tryd.prog) w 34 5 C n c Tryd.underlying34 Tryd.underlying5
  go_enter Tryd.func5, Tryd.ntmps5
  go_wp2_with fail
  refine (new_any w 9 (by omega) (by omega)).mono ?_
  rintro e w1 ⟨p, ρ1, rfl, h1, hk1, -⟩
  have D1 := Hid_mk h1
  have K1 := Hid_mk hk1
  clear h1 hk1
  go_wp2_with fail
  have k1 : Kp No w1 (w1.alloc (.cells #[.int .u8 120, .int .u8 121, .int .u8 122] 5 (3, 4))) := (Kp.refl _ _).alloc _
  have ha := append_any _ _ p 0 ρ1 (newD 9) ka (.slice (some ⟨w1.heap.size, 0, none⟩) 3 3) [120, 121, 122] (D1.out.no k1) (new_ok 9 (by omega) (by omega)) (by omega) rfl (by decide) (bs_lit w1 [120, 121, 122] (3, 4) (by decide)) (fun x o m c e => by cases e; exact D1.out.hi (Nat.le_refl _)) (by decide) (by decide)
  rw [ke1] at ha
  with_reducible refine ha.mono ?_
  clear ha
  rintro e w2 ⟨rfl, ρ2, h2, f2⟩
  have D2 := Hid_mk h2
  have K2 := Hid_mk ((D1.out.no k1).out (Nat.le_refl _) (K1.out.trans' k1) f2)
  clear h2 f2 k1
  go_wp2_with fail
  have ha := sync_any w2 w.heap.size p 1 ρ2 kd1 D2.out ko1 (by omega) rfl
  rw [ke2] at ha
  with_reducible refine ha.mono ?_
  clear ha
  rintro e w3 ⟨rfl, ρ3, h3, f3⟩
  have D3 := Hid_mk h3
  have K3 := Hid_mk (D2.out.out (Nat.le_refl _) K2.out f3)
  clear h3 f3
  go_wp2_with fail
  have k3 : Kp No w3 (w3.alloc (.cells #[.int .u8 49, .int .u8 50] 5 (2, 3))) := (Kp.refl _ _).alloc _
  have ha := append_any _ _ p 1 ρ3 kd2 ka (.slice (some ⟨w3.heap.size, 0, none⟩) 2 2) [49, 50] (D3.out.no k3) ko2 (by omega) rfl (by decide) (bs_lit w3 [49, 50] (2, 3) (by decide)) (fun x o m c e => by cases e; exact D3.out.hi (Nat.le_refl _)) (by decide) (by decide)
  rw [ke3] at ha
  with_reducible refine ha.mono ?_
  clear ha
  rintro e w4 ⟨rfl, ρ4, h4, f4⟩
  have D4 := Hid_mk h4
  have K4 := Hid_mk ((D3.out.no k3).out (Nat.le_refl _) (K3.out.trans' k3) f4)
  clear h4 f4 k3
  go_wp2_with fail
  have ha := remove_any w4 w.heap.size p 2 ρ4 kd3 ka D4.out ko3 (by omega) rfl (by decide) rfl
  rw [ke4] at ha
  with_reducible refine ha.mono ?_
  clear ha
  rintro e w5 ⟨rfl, ρ5, h5, f5⟩
  have D5 := Hid_mk h5
  have K5 := Hid_mk (D4.out.out (Nat.le_refl _) K4.out f5)
  clear h5 f5
  go_wp2_with fail
  have ha := crash_any w5 w.heap.size p 3 ρ5 kd4 1 0 D5.out ko4 (by omega)
  rw [ke5, kk5] at ha
  with_reducible refine ha.mono ?_
  clear ha
  rintro e w6 ⟨rfl, ρ6, ⟨s, n, vp, ps, h6⟩, f6⟩
  have D6 := Hid_mk h6
  have K6 := Hid_mk (D5.out.out (Nat.le_refl _) K5.out f6)
  clear h6 f6
  go_wp2_with fail
  have ha := read_any w6 w.heap.size p ρ6 kd5 kd5.now s n vp ps ka D6.out rfl (by decide) (by decide)
  rw [show (fs.get kd5.now (nm ka)).isSome = true from rfl, show old kd5.now (nm ka) = [120, 121, 122, 49, 50] from rfl] at ha
  with_reducible refine ha.mono ?_
  clear ha
  rintro e w7 ⟨v, rfl, hown, hk7⟩
  have hcv := known.conv_bs (owns_bs hown)
  have K7 := Hid_mk (K6.out.trans' hk7)
  clear hown hk7
  go_wp2_with fail
  go_ret
  exact ⟨rfl, K7.out⟩

end Go.Proofs.YtomckoeobkfklaaDoor.dsk
