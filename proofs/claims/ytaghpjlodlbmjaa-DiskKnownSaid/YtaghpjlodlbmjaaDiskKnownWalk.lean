/- DiskKnown: the law's walk. -/
import Derived.Test.YtaghpjlodlbmjaaDiskTell
import Derived.Test.YtaghpjlodlbmjaaDiskKnown2
namespace Go.Proofs.Ytaghpjlodlbmjaa.diskKnownWalk
open Go.RowKit Go.Maps Go.Proofs.Ytaghpjlodlbmjaa.sum Go.Proofs.Ytaghpjlodlbmjaa.kept Go.Proofs.Ytaghpjlodlbmjaa.app Go.Proofs.Ytaghpjlodlbmjaa.writer Go.Proofs.Ytaghpjlodlbmjaa.clone Go.Proofs.Ytaghpjlodlbmjaa.unseal Go.Proofs.Ytaghpjlodlbmjaa.fs Go.Proofs.Ytaghpjlodlbmjaa.fsMem Go.Proofs.Ytaghpjlodlbmjaa.fsDo Go.Proofs.Ytaghpjlodlbmjaa.fsUsed Go.Proofs.Ytaghpjlodlbmjaa.turned Go.Proofs.Ytaghpjlodlbmjaa.dsk
set_option linter.unusedVariables false

abbrev kb : ByteArray := ⟨#[98]⟩
def kf : Files := [([97], [120, 121, 122, 49])]
def kd6 : DSt := ⟨9, -1, false, kf, []⟩
def kd7 : DSt := ⟨9, 1, false, kf, []⟩
def kd8 : DSt := ⟨9, 0, false, kf, [appC kb [49]]⟩
def kd9 : DSt := ⟨9, 0, true, kf, [appC kb [49]]⟩
theorem ke6 : crashD kd4 0 1 = kd6 := rfl
theorem kk6 : crashK kd4 0 = 0 := rfl
theorem ke7 : ({ kd6 with fuse := max 1 (-1) } : DSt) = kd7 := rfl
theorem ke8 : ({ stopD kd7 with cs := kd7.cs ++ [appC kb [49]] } : DSt) = kd8 := rfl
theorem ke9 : stopD kd8 = kd9 := rfl
theorem ko6 : DOk 3 kd6 := ke6 ▸ crash_ok ko4 (by omega) 0 1
theorem ko7 : DOk 3 kd7 := ⟨ko6.rising, ko6.few, ko6.small, ko6.fit, ko6.names, ko6.sizes, ko6.room0, ko6.room1, by decide, by decide, ko6.plain⟩
theorem ko8 : DOk 4 kd8 := ke8 ▸ append_ok ko7 (by decide) (by decide)

theorem bs_lt {w : World} {v : Value} {bs : List UInt8} (h : Bs w v bs) (hne : bs ≠ []) : ∀ b o n c, v = .slice (some ⟨b, o, none⟩) n c → b < w.heap.size := by
  intro b o n c e
  obtain ⟨a, cap, rfl, h1, h2, h3⟩ := h
  obtain ⟨b', o', rfl, hc⟩ := h3 hne
  cases e
  have hp : 0 < bs.length := by cases bs with
    | nil => exact absurd rfl hne
    | cons _ _ => simp
  exact World.block_lt_of_cell? w _ (hc 0 hp)

/-- bytes that are not the disk's are let be -/
theorem keep_bs {w w2 : World} {ρ ρ2 : Nat → Role} {v : Value} {bs : List UInt8} (hb : Bs w v bs ∧ ∀ b o n c, v = .slice (some ⟨b, o, none⟩) n c → ρ b = .other) (hne : bs ≠ []) (hf : Fr ρ w ρ2 w2) :
    Bs w2 v bs ∧ ∀ b o n c, v = .slice (some ⟨b, o, none⟩) n c → ρ2 b = .other := by
  obtain ⟨hb, hr⟩ := hb
  have hl := bs_lt hb hne
  exact ⟨bs_kept hb hf.1 fun b o n c e e2 => e2 (hr b o n c e), fun b o n c e => hf.2 b (hl b o n c e) (hr b o n c e)⟩
theorem keep_no {w w2 : World} {ρ : Nat → Role} {v : Value} {bs : List UInt8} (hb : Bs w v bs ∧ ∀ b o n c, v = .slice (some ⟨b, o, none⟩) n c → ρ b = .other) (hk : Kp No w w2) :
    Bs w2 v bs ∧ ∀ b o n c, v = .slice (some ⟨b, o, none⟩) n c → ρ b = .other := ⟨bs_no hb.1 hk, hb.2⟩

set_option maxRecDepth 100000 in
set_option maxHeartbeats 4000000 in
theorem walk (w : World) : Calls Try.prog 3 #[] w fun e w' => e = .returned (.bool true) ∧ Kp No w w' := by
  have kc := fun (w : World) (C : Array Value) (n c : Nat) => Lib.run_convert_bytes_const (P := Try.prog) w 28 5 C n c Try.underlying28 Try.underlying5
  go_enter Try.func3, Try.ntmps3
  go_wp2_with fail
  with_reducible refine (new_no _ (-1) (by decide)).mono ?_
  rintro e w0 ⟨rfl, rfl⟩
  go_wp2_with fail
  with_reducible refine (new_no _ 8388609 (by decide)).mono ?_
  rintro e w0 ⟨rfl, rfl⟩
  go_wp2_with fail
  with_reducible refine (new_any w 9 (by omega) (by omega)).mono ?_
  rintro e w1' ⟨p, ρ1, rfl, h1, hk1, -⟩
  have D1' := Hid_mk h1
  have K1' := Hid_mk hk1
  clear h1 hk1
  go_wp2_with fail
  with_reducible refine (known_any _).mono ?_
  rintro e w1 ⟨rfl, hkn⟩
  have D1 := Hid_mk (D1'.out.no hkn)
  have K1 := Hid_mk (K1'.out.trans' hkn)
  clear hkn D1' K1'
  go_wp2_with fail
  have k1 : Kp No w1 (w1.alloc (.cells #[.int .u8 120, .int .u8 121, .int .u8 122] 5 (3, 4))) := (Kp.refl _ _).alloc _
  have ha := append_any _ _ p 0 ρ1 (newD 9) ka (.slice (some ⟨w1.heap.size, 0, none⟩) 3 3) [120, 121, 122] (D1.out.no k1) (new_ok 9 (by omega) (by omega)) (by omega) rfl (by decide) (bs_lit w1 [120, 121, 122] (3, 4) (by decide)) (fun x o m c e => by cases e; exact D1.out.hi (Nat.le_refl _)) (by decide) (by decide)
  rw [ke1] at ha
  with_reducible refine ha.mono ?_
  clear ha
  rintro e w2 ⟨rfl, ρ2, h2, f2⟩
  have D2 := Hid_mk h2
  have K2 := Hid_mk ((D1.out.no k1).out (Nat.le_refl _) (K1.out.trans' k1) f2)
  clear h2 f2 k1
  go_wp2_with fail
  have ha := sync_any w2 w.heap.size p 1 ρ2 kd1 D2.out ko1 (by omega) rfl
  rw [ke2] at ha
  with_reducible refine ha.mono ?_
  clear ha
  rintro e w3 ⟨rfl, ρ3, h3, f3⟩
  have D3 := Hid_mk h3
  have K3 := Hid_mk (D2.out.out (Nat.le_refl _) K2.out f3)
  clear h3 f3
  go_wp2_with fail
  have k3 : Kp No w3 (w3.alloc (.cells #[.int .u8 49, .int .u8 50] 5 (2, 3))) := (Kp.refl _ _).alloc _
  have ha := append_any _ _ p 1 ρ3 kd2 ka (.slice (some ⟨w3.heap.size, 0, none⟩) 2 2) [49, 50] (D3.out.no k3) ko2 (by omega) rfl (by decide) (bs_lit w3 [49, 50] (2, 3) (by decide)) (fun x o m c e => by cases e; exact D3.out.hi (Nat.le_refl _)) (by decide) (by decide)
  rw [ke3] at ha
  with_reducible refine ha.mono ?_
  clear ha
  rintro e w4 ⟨rfl, ρ4, h4, f4⟩
  have D4 := Hid_mk h4
  have K4 := Hid_mk ((D3.out.no k3).out (Nat.le_refl _) (K3.out.trans' k3) f4)
  clear h4 f4 k3
  go_wp2_with fail
  have ha := remove_any w4 w.heap.size p 2 ρ4 kd3 ka D4.out ko3 (by omega) rfl (by decide) rfl
  rw [ke4] at ha
  with_reducible refine ha.mono ?_
  clear ha
  rintro e w5 ⟨rfl, ρ5, h5, f5⟩
  have D5 := Hid_mk h5
  have K5 := Hid_mk (D4.out.out (Nat.le_refl _) K4.out f5)
  clear h5 f5
  go_wp2_with fail
  have ha := crash_any w5 w.heap.size p 3 ρ5 kd4 0 1 D5.out ko4 (by omega)
  rw [ke6, kk6] at ha
  with_reducible refine ha.mono ?_
  clear ha
  rintro e w6 ⟨rfl, ρ6, ⟨s, n, vp, ps, h6⟩, f6⟩
  have D6 := Hid_mk h6
  have K6 := Hid_mk (D5.out.out (Nat.le_refl _) K5.out f6)
  clear h6 f6
  go_wp2_with fail
  have ha := read_any w6 w.heap.size p ρ6 kd6 kd6.now s n vp ps ka D6.out rfl (by decide) (by decide)
  rw [show (fs.get kd6.now (nm ka)).isSome = true from rfl, show old kd6.now (nm ka) = [120, 121, 122, 49] from rfl] at ha
  with_reducible refine ha.mono ?_
  clear ha
  rintro e w7 ⟨v, rfl, hown, hk7⟩
  have hvb : ∀ b o n c, v = .slice (some ⟨b, o, none⟩) n c → ρ6 b = .other := fun b o n c e => D6.out.hi b (by
    have := (World.ownsRow.lt hown b (by rw [e]; rfl)).1
    omega)
  have HB7 := Hid_mk (And.intro (owns_bs hown) hvb)
  have K7 := Hid_mk (K6.out.trans' hk7)
  have D7 := Hid_mk (show Dk w7 w.heap.size p ρ6 kd6 from ⟨s, n, vp, ps, D6.out.no hk7⟩)
  clear hown hk7 hvb
  go_wp2_with fail
  have ha := fuse_any w7 w.heap.size p ρ6 kd6 1 D7.out
  rw [ke7] at ha
  with_reducible refine ha.mono ?_
  clear ha
  rintro e w8 ⟨rfl, h8, f8⟩
  have HB8 := Hid_mk (keep_bs HB7.out (by decide) f8)
  have D8 := Hid_mk h8
  have K8 := Hid_mk (D7.out.out (Nat.le_refl _) K7.out f8)
  clear h8 f8
  go_wp2_with fail
  have k8 : Kp No w8 (w8.alloc (.cells #[.int .u8 49] 5 (1, 2))) := (Kp.refl _ _).alloc _
  have ha := append_any _ _ p 3 ρ6 kd7 kb (.slice (some ⟨w8.heap.size, 0, none⟩) 1 1) [49] (D8.out.no k8) ko7 (by omega) rfl (by decide) (bs_lit w8 [49] (1, 2) (by decide)) (fun x o m c e => by cases e; exact D8.out.hi (Nat.le_refl _)) (by decide) (by decide)
  rw [ke8] at ha
  with_reducible refine ha.mono ?_
  clear ha
  rintro e w9 ⟨rfl, ρ9, h9, f9⟩
  have D9 := Hid_mk h9
  have HB9 := Hid_mk (keep_bs (keep_no HB8.out k8) (by decide) f9)
  have K9 := Hid_mk ((D8.out.no k8).out (Nat.le_refl _) (K8.out.trans' k8) f9)
  clear h9 f9 k8
  go_wp2_with fail
  have k9 : Kp No w9 (w9.alloc (.cells #[.int .u8 50] 5 (1, 2))) := (Kp.refl _ _).alloc _
  have ha := append_down _ _ p 4 ρ9 kd8 kb (.slice (some ⟨w9.heap.size, 0, none⟩) 1 1) (D9.out.no k9) ko8 rfl
  rw [ke9] at ha
  with_reducible refine ha.mono ?_
  clear ha
  rintro e wA ⟨rfl, ρA, hA, fA⟩
  have DA := Hid_mk hA
  have hcv := known.conv_bs (keep_bs (keep_no HB9.out k9) (by decide) fA).1
  have KA := Hid_mk ((D9.out.no k9).out (Nat.le_refl _) (K9.out.trans' k9) fA)
  clear hA fA k9
  go_wp2_with fail
  with_reducible refine (down_any _ w.heap.size p ρA kd9 DA.out).mono ?_
  rintro e wB ⟨rfl, rfl⟩
  unfold kd9
  go_wp2_with fail
  with_reducible refine (names_down _ w.heap.size p ρA kd9 DA.out rfl).mono ?_
  rintro e wB ⟨rfl, rfl⟩
  go_wp2_with fail
  with_reducible refine (pending_any _ w.heap.size p ρA kd9 DA.out).mono ?_
  rintro e wB ⟨rfl, rfl⟩
  rw [show kd9.cs.length = 1 from rfl]
  go_wp2_with fail
  go_ret
  exact ⟨rfl, KA.out⟩

end Go.Proofs.Ytaghpjlodlbmjaa.diskKnownWalk
