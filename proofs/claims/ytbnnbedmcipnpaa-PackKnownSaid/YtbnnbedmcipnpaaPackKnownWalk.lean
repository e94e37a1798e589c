/- PackKnown: the law's walk. -/
import Derived.Test.YtbnnbedmcipnpaaReaderText
import Derived.Test.YtbnnbedmcipnpaaTurnedPlain
import Derived.Lib.SlBytesConst
namespace Go.Proofs.Ytbnnbedmcipnpaa.packKnownWalk
open Go.RowKit Go.Proofs.Ytbnnbedmcipnpaa.sum Go.Proofs.Ytbnnbedmcipnpaa.kept Go.Proofs.Ytbnnbedmcipnpaa.app Go.Proofs.Ytbnnbedmcipnpaa.writer Go.Proofs.Ytbnnbedmcipnpaa.clone Go.Proofs.Ytbnnbedmcipnpaa.known Go.Proofs.Ytbnnbedmcipnpaa.unseal Go.Proofs.Ytbnnbedmcipnpaa.number Go.Proofs.Ytbnnbedmcipnpaa.reader Go.Proofs.Ytbnnbedmcipnpaa.seal Go.Proofs.Ytbnnbedmcipnpaa.turnedPlain
set_option linter.unusedVariables false

def ex : List UInt8 := [7, 172, 2, 2, 97, 98]
theorem x1 : rByte ex 0 0 9 = (7, 1, 0) := by decide
theorem x2 : rNum ex 1 0 300 = (300, 3, 0) := by decide
theorem x3 : rText ex 3 0 5 = ([97, 98], 6, 0) := by decide
theorem x4 : rEnd ex 6 0 = 0 := by decide
theorem y1 : rNum [128, 0] 0 0 9 = (0, 0, 11) := by decide
theorem y2 : rEnd [128, 0] 0 11 = 11 := by decide
theorem z1 : rNum [172, 2] 0 0 299 = (0, 0, 12) := by decide
theorem z2 : rEnd [172, 2] 0 12 = 12 := by decide

/-- a literal of bytes, as laid by the call -/
theorem bs_lit (w : World) (bs : List UInt8) (fr : Nat × Nat) (hl : bs.length ≤ maxLen) : Bs (w.alloc (.cells (bs.map B).toArray 5 fr)) (.slice (some ⟨w.heap.size, 0, none⟩) bs.length bs.length) bs := by
  refine ⟨_, _, rfl, Nat.le_refl _, hl, fun _ => ⟨_, _, rfl, fun k hk => ?_⟩⟩
  rw [World.cell?_alloc_mark]
  simp [List.getD, hk]

theorem owns_val {w : World} {base : Nat} {v : Value} {bs : List UInt8} (h : w.ownsRow base 5 1 v bs.length (bs.map B)) : Bs w v bs := owns_bs h

set_option maxRecDepth 100000 in
set_option maxHeartbeats 4000000 in
theorem walk (w : World) : Calls Try.prog 3 #[] w fun e w' => e = .returned (.bool true) ∧ Kp No w w' := by
  have kc := fun (w : World) (C : Array Value) (n c : Nat) => Lib.run_convert_bytes_const (P := Try.prog) w 24 5 C n c Try.underlying24 Try.underlying5
  go_enter Try.func3, Try.ntmps3
  go_wp2_with fail
  refine (reader.new_any _ _ ex (bs_lit w ex (6, 7) (by decide)) (by decide)).mono ?_
  rintro e w1 ⟨p, v, rfl, hp, hR, hk, -⟩
  have HK1 := Hid_mk (((Kp.refl No w).alloc _).trans' hk)
  have HR1 := Hid_mk hR
  have hpw : w.heap.size ≤ p := by simp at hp; omega
  clear hR hk hp
  go_wp2_with fail
  have h1 := reader.byte_any w1 p v ex 0 0 9 HR1.out
  rw [x1] at h1
  refine h1.mono ?_
  clear h1
  rintro e w2 ⟨rfl, hR, hk⟩
  have HK2 := Hid_mk (HK1.out.trans hk fun i hi e => by omega)
  have HR2 := Hid_mk hR
  clear hR hk
  go_wp2_with fail
  have h1 := reader.num_any w2 p v ex 1 0 300 HR2.out
  rw [x2] at h1
  refine h1.mono ?_
  clear h1
  rintro e w3 ⟨rfl, hR, hk⟩
  have HK3 := Hid_mk (HK2.out.trans hk fun i hi e => by omega)
  have HR3 := Hid_mk hR
  clear hR hk
  go_wp2_with fail
  have h1 := reader.text_any w3 p v ex 3 0 5 (by omega) HR3.out
  rw [show (5 : Int).toNat = 5 from rfl, x3] at h1
  refine h1.mono ?_
  clear h1
  rintro e w4 ⟨rfl, hR, hk⟩
  have HK4 := Hid_mk (HK3.out.trans hk fun i hi e => by omega)
  have HR4 := Hid_mk hR
  clear hR hk
  go_wp2_with fail
  have h1 := reader.end_any w4 p v ex 6 0 HR4.out
  rw [x4] at h1
  refine h1.mono ?_
  clear h1
  rintro e w5 ⟨rfl, n5, hw5⟩
  have HK5 : Hid (Kp No w w5) := Hid_mk (by rw [hw5]; exact HK4.out.drewN n5)
  clear hw5
  go_wp2_with fail
  -- a
  refine (reader.new_any _ _ [128, 0] (bs_lit w5 [128, 0] (0, 0) (by decide)) (by decide)).mono ?_
  rintro e w6 ⟨p6, v6, rfl, hp6, hR, hk, -⟩
  have HK6 := Hid_mk ((HK5.out.alloc _).trans' hk)
  have HR6 := Hid_mk hR
  have hpw6 : w.heap.size ≤ p6 := by have := HK5.out.size; simp at hp6; omega
  have hlt6 := hR.lt
  clear hR hk hp6
  go_wp2_with fail
  -- b
  refine (reader.new_any _ _ [172, 2] (bs_lit w6 [172, 2] (0, 0) (by decide)) (by decide)).mono ?_
  rintro e w7 ⟨p7, v7, rfl, hp7, hR, hk, hf7⟩
  have hk67 := ((Kp.refl No w6).alloc (.cells #[.int .u8 172, .int .u8 2] 5)).trans' hk
  have HK7 := Hid_mk (HK6.out.trans' hk67)
  have HR7 := Hid_mk hR
  have HR6' := Hid_mk (HR6.out.kept hk67 id fun _ _ _ _ _ => id)
  have hpw7 : w.heap.size ≤ p7 := by have := HK6.out.size; simp at hp7; omega
  have hne : p6 < p7 := by simp at hp7; omega
  have HF7 := Hid_mk hf7
  clear hR hk hp7 hk67 HR6 hf7
  go_wp2_with fail
  have h1 := reader.num_any w7 p6 v6 [128, 0] 0 0 9 HR6'.out
  rw [y1] at h1
  refine h1.mono ?_
  clear h1
  rintro e w8 ⟨rfl, hR, hk⟩
  have HK8 := Hid_mk (HK7.out.trans hk fun i hi e => by omega)
  have HR8 := Hid_mk hR
  have HR7' := Hid_mk (HR7.out.kept hk (by omega) fun b o n c e => by
    have := HF7.out b (by rw [e]; rfl)
    simp at this
    omega)
  clear hR hk HF7
  go_wp2_with fail
  have h1 := reader.end_any w8 p6 v6 [128, 0] 0 11 HR8.out
  rw [y2] at h1
  refine h1.mono ?_
  clear h1
  rintro e w9 ⟨rfl, n9, hw9⟩
  have HK9 : Hid (Kp No w w9) := Hid_mk (by rw [hw9]; exact HK8.out.drewN n9)
  have HR9 : Hid (Rd w9 p7 v7 [172, 2] 0 0) := Hid_mk (by rw [hw9]; exact HR7'.out.drewN n9)
  clear hw9
  go_wp2_with fail
  have h1 := reader.num_any w9 p7 v7 [172, 2] 0 0 299 HR9.out
  rw [z1] at h1
  refine h1.mono ?_
  clear h1
  rintro e w10 ⟨rfl, hR, hk⟩
  have HK10 := Hid_mk (HK9.out.trans hk fun i hi e => by omega)
  have HR10 := Hid_mk hR
  clear hR hk
  go_wp2_with fail
  have h1 := reader.end_any w10 p7 v7 [172, 2] 0 12 HR10.out
  rw [z2] at h1
  refine h1.mono ?_
  clear h1
  rintro e w11 ⟨rfl, n11, hw11⟩
  have HK11 : Hid (Kp No w w11) := Hid_mk (by rw [hw11]; exact HK10.out.drewN n11)
  clear hw11
  go_wp2_with fail
  -- u, e
  refine (seal_any _ _ [97] (bs_lit w11 [97] (1, 2) (by decide)) (by decide)).mono ?_
  rintro e w12 ⟨v12, rfl, ho12, hk12⟩
  have HK12 := Hid_mk ((HK11.out.alloc _).trans' hk12)
  have HB12 := Hid_mk (owns_bs ho12)
  clear ho12 hk12
  go_wp2_with fail
  refine (unseal_all _ _ _ HB12.out (by decide)).mono ?_
  rintro e w13 hun
  have so := sealed_ok [97]
  unfold UnsealPost at hun
  rw [so.1, if_neg (by decide), show ([97] : List UInt8).length + 6 - 6 = ([97] : List UInt8).length from rfl, so.2.1, so.2.2, if_pos rfl] at hun
  obtain ⟨hk13, v13, rfl, ho13⟩ := hun
  have HK13 := Hid_mk (HK12.out.trans' hk13)
  have HB13 := Hid_mk (owns_bs ho13)
  clear ho13 hk13 so
  go_wp2_with fail
  -- f
  refine (unseal_all _ _ _ (bs_lit w13 [97, 98, 99] (3, 4) (by decide)) (by decide)).mono ?_
  rintro e w14 hun
  unfold UnsealPost at hun
  rw [if_pos (by decide)] at hun
  obtain ⟨hk14, rfl⟩ := hun
  have HK14 := Hid_mk ((HK13.out.alloc _).trans' hk14)
  have HB14 := Hid_mk (bs_no HB13.out (((Kp.refl No w13).alloc _).trans' hk14))
  clear hk14
  go_wp2_with fail
  refine (known_any _).mono ?_
  rintro e w15 ⟨rfl, hk15⟩
  have HK15 := Hid_mk (HK14.out.trans' hk15)
  have HB15 := Hid_mk (bs_no HB14.out hk15)
  have hconv := conv_bs HB15.out
  clear hk15
  go_wp2_with fail
  have hs := sum_any w15 (.slice none 0 0) [] ⟨none, 0, rfl, Nat.le_refl _, Nat.zero_le _, fun h => absurd rfl h⟩
  have e1 : cx (pl.sum []) = .complex .f64 4607182418800017408 0 := by rw [pl.sum_nil, ← one_word]; conv => rhs; rw [← zero_word]
                                                                       rfl
  rw [e1] at hs
  refine hs.mono ?_
  rintro e w16 ⟨rfl, rfl⟩
  have o1 : (FloatKind.f64.format.order 4607182418800017408 4607182418800017408 == some .eq) = true := by decide +kernel
  have o2 : (FloatKind.f64.format.order 0 0 == some .eq) = true := by decide +kernel
  clear hs e1
  go_wp2
  go_ret
  exact ⟨rfl, HK15.out⟩

end Go.Proofs.Ytbnnbedmcipnpaa.packKnownWalk
