/- The law's known of chapter 5. -/
import Derived.Test.YteekcbbdbciddaaGreatDoorWalSame
import Derived.Deep.RegionHeld3

namespace Go.Proofs.YteekcbbdbciddaaGreatDoor.wal
open Go.RowKit Go.Proofs.YteekcbbdbciddaaGreatDoor.fl Go.Proofs.YteekcbbdbciddaaGreatDoor.sum Go.Proofs.YteekcbbdbciddaaGreatDoor.kept Go.Proofs.YteekcbbdbciddaaGreatDoor.app Go.Proofs.YteekcbbdbciddaaGreatDoor.writer Go.Proofs.YteekcbbdbciddaaGreatDoor.clone Go.Proofs.YteekcbbdbciddaaGreatDoor.known Go.Proofs.YteekcbbdbciddaaGreatDoor.mrk Go.Proofs.YteekcbbdbciddaaGreatDoor.hex Go.Proofs.YteekcbbdbciddaaGreatDoor.fs Go.Proofs.YteekcbbdbciddaaGreatDoor.fsUsed Go.Proofs.YteekcbbdbciddaaGreatDoor.dsk Go.Proofs.YteekcbbdbciddaaGreatDoor.frm
set_option linter.unusedVariables false

theorem FrL.out {w0 w w' : World} {base p lp : Nat} {ρ ρ' : Nat → Role} {d : DSt} (h : Dk w base p ρ d) (hb : w0.heap.size ≤ base) (hl : w0.heap.size ≤ lp) (hk : Kp No w0 w) (hf : FrL ρ lp w ρ' w') : Kp No w0 w' := by
  obtain ⟨s, n, vp, ps, h⟩ := h
  refine hk.trans hf.1 fun k hk2 e => ?_
  rcases e with e | e
  · have := h.low k e; omega
  · omega

theorem name5 : (⟨(nameOf 5).toArray⟩ : ByteArray) = ⟨#[106, 48, 48, 48, 48, 48, 48, 48, 48, 48, 48, 48, 48, 48, 48, 53]⟩ := by
  unfold nameOf; rw [hexs_small (by omega)]; rfl

abbrev kd0 : DSt := newD 8388608
def kx : Bt := bt 5
def kd1 : DSt := { newD 8388608 with syn := { newD 8388608 with cs := [appC ⟨(nameOf 5).toArray⟩ (framed (laid kx))] }.now, cs := [] }
theorem kd1_now : kd1.now = [(nameOf 5, framed (laid kx))] := rfl
theorem kd0_sync : ({ stopD kd0 with syn := kd0.now, cs := [] } : DSt) = kd0 := rfl
theorem kx_ok : BtOk kx := bt_ok 5 (by omega) (by omega)
theorem kd1_ok : DOk 1 kd1 := by
  have h := append_ok (new_ok 8388608 (by omega) (by omega)) (name := ⟨(nameOf 5).toArray⟩) (bs := framed (laid kx)) (by rw [name5]; rfl) (by have := framed_len (bs := laid kx) (by have := laid_len kx kx_ok; omega); have := laid_len kx kx_ok; omega)
  exact sync_ok h

set_option maxRecDepth 100000 in
set_option maxHeartbeats 4000000 in
theorem known_any (w : World) (ht : Tz w) : Calls Tryz.prog 7 #[] w fun e w' => e = .returned (.bool true) ∧ Kp No w w' := by
  have HT := Hid_mk ht
  clear ht
  go_enter Tryz.func7, Tryz.ntmps7
  go_wp2_with fail
  refine (dsk.new_any w 8388608 (by omega) (by omega)).mono ?_
  rintro e w1 ⟨p, ρ1, rfl, h1, hk1, -⟩
  have D1 := Hid_mk h1
  have K1 := Hid_mk hk1
  have hnm := name_any 5 (by omega) w1 (HT.out.no hk1)
  rw [name5] at hnm
  have HN := Hid_mk hnm
  clear h1 hk1 hnm
  go_wp2_with fail
  refine HN.out.mono ?_
  rintro e w2 ⟨rfl, hk2⟩
  have D2 := Hid_mk (D1.out.no hk2)
  have K2 := Hid_mk (K1.out.trans' hk2)
  have HO := Hid_mk (open_none w2 w.heap.size p 0 4 ρ1 kd0 (D1.out.no hk2) (new_ok 8388608 (by omega) (by omega)) (by omega) rfl rfl (by omega) (HT.out.no (K1.out.trans' hk2)))
  clear hk2
  go_wp2_with fail
  refine HO.out.mono ?_
  rintro e w3 ⟨lp, vn, v, ρ3, rfl, hlg3, hlo3, hvo3, rfl, hd3, hf3⟩
  rw [kd0_sync] at hd3
  have D3 := Hid_mk hd3
  have K3 := Hid_mk (D2.out.out (Nat.le_refl _) K2.out hf3)
  have L3 := Hid_mk hlg3
  have LO3 := Hid_mk hlo3
  have VO3 := Hid_mk hvo3
  have hll := hlg3.low
  have hl2 := K2.out.size
  have HLp := Hid_mk (show w.heap.size ≤ lp from by omega)
  have HB5 := Hid_mk (batch_any 5 w3)
  clear hlg3 hlo3 hvo3 hd3 hf3 hll hl2
  go_wp2_with fail
  refine HB5.out.mono ?_
  rintro e w4 ⟨vb, rfl, hb4, hk4⟩
  have D4 := Hid_mk (D3.out.no hk4)
  have K4 := Hid_mk (K3.out.trans' hk4)
  have HA := Hid_mk (append_first w4 w2.heap.size w.heap.size lp p 0 ρ3 kd0 vn 4 (L3.out.no hk4) LO3.out VO3.out (by omega) kx vb kx_ok hb4 rfl D4.out (new_ok 8388608 (by omega) (by omega)) (by omega) rfl rfl rfl (by decide) (HT.out.no K4.out) (by have := L3.out.lt; have := L3.out.low; have := hk4.size; omega))
  clear hb4 hk4
  go_wp2_with fail
  refine HA.out.mono ?_
  rintro e w5 ⟨rfl, vn5, ρ5, hlg5, hlo5, hvo5, hd5, hf5⟩
  have hd5' : Dk w5 w.heap.size p ρ5 kd1 := hd5
  have D5 := Hid_mk hd5'
  have K5 := Hid_mk (FrL.out D4.out (Nat.le_refl _) HLp.out K4.out hf5)
  have L5 := Hid_mk hlg5
  have LO5 := Hid_mk hlo5
  have HB7 := Hid_mk (batch_any 7 w5)
  clear hlg5 hlo5 hvo5 hd5 hd5' hf5
  go_wp2_with fail
  refine HB7.out.mono ?_
  rintro e w6 ⟨vb7, rfl, hb6, hk6⟩
  have D6 := Hid_mk (D5.out.no hk6)
  have K6 := Hid_mk (K5.out.trans' hk6)
  have L6 := Hid_mk (L5.out.no hk6)
  have HW := Hid_mk (append_wrong w6 w2.heap.size lp p vn5 [kx.epoch] ((laid kx).length + 10) kx.epoch (L5.out.no hk6) (by decide) (bt 7) vb7 (bt_ok 7 (by omega) (by omega)) hb6 (by decide))
  clear hb6 hk6
  go_wp2_with fail
  refine HW.out.mono ?_
  rintro e w7 ⟨rfl, hk7⟩
  have D7 := Hid_mk (D6.out.no hk7)
  have K7 := Hid_mk (K6.out.trans' hk7)
  have L7 := Hid_mk (L6.out.no hk7)
  have HLa := Hid_mk (last_any w7 _ _ _ _ _ _ _ (L6.out.no hk7))
  clear hk7
  go_wp2_with fail
  refine HLa.out.mono ?_
  rintro e w8 ⟨rfl, rfl⟩
  have HO2 := Hid_mk (open_one w7 w.heap.size p 1 4 5 ρ5 kd1 kx kx_ok D7.out kd1_ok (by omega) rfl kd1_now (by omega) rfl (by omega) (HT.out.no K7.out))
  have ek : ((kx.epoch : Nat) : Int) = 5 := rfl
  rw [ek]
  go_wp2_with fail
  refine HO2.out.mono ?_
  rintro e w9 ⟨lp9, vn9, v9, ρ9, rfl, hlg9, hlo9, hvo9, ⟨vb9, hone9, hbs9⟩, hd9, hf9⟩
  have K9 := Hid_mk (D7.out.out (Nat.le_refl _) K7.out hf9)
  clear hlg9 hlo9 hvo9 hd9 hf9
  obtain ⟨b, o, cap, rfl, g1, g2, c0, c1, c2, c3, c4, c5, c6⟩ := hone9
  go_wp2_with fail
  obtain ⟨u0, hu0⟩ : ∃ u : Value, u = .int .u64 (kx.epoch : Int) := ⟨_, rfl⟩
  obtain ⟨u1, hu1⟩ : ∃ u : Value, u = .int .u64 (kx.time : Int) := ⟨_, rfl⟩
  obtain ⟨u2, hu2⟩ : ∃ u : Value, u = C (kx.a : Int) (kx.b : Int) := ⟨_, rfl⟩
  obtain ⟨u3, hu3⟩ : ∃ u : Value, u = C (kx.c : Int) (kx.d : Int) := ⟨_, rfl⟩
  obtain ⟨u4, hu4⟩ : ∃ u : Value, u = .bool kx.gap := ⟨_, rfl⟩
  obtain ⟨u6, hu6⟩ : ∃ u : Value, u = .bool kx.stop := ⟨_, rfl⟩
  have hbv : bval kx vb9 = .agg #[u0, u1, u2, u3, u4, vb9, u6] := by rw [hu0, hu1, hu2, hu3, hu4, hu6]; rfl
  have hsame : ∀ V vb2, Bs V vb2 kx.bytes → Bs V vb9 kx.bytes → V.cell? ⟨b, o, none⟩ = some u0 → V.cell? ⟨b, o + 1, none⟩ = some u1 → V.cell? ⟨b, o + 2, none⟩ = some u2 → V.cell? ⟨b, o + 3, none⟩ = some u3 → V.cell? ⟨b, o + 4, none⟩ = some u4 → V.cell? ⟨b, o + 5, none⟩ = some vb9 → V.cell? ⟨b, o + 6, none⟩ = some u6 → Calls Tryz.prog 21 #[.agg #[u0, u1, u2, u3, u4, vb9, u6], bval (bt 5) vb2] V fun e w' => e = .returned (.bool true) ∧ w'.cell? ⟨b, o, none⟩ = some u0 ∧ w'.cell? ⟨b, o + 1, none⟩ = some u1 ∧ w'.cell? ⟨b, o + 2, none⟩ = some u2 ∧ w'.cell? ⟨b, o + 3, none⟩ = some u3 ∧ w'.cell? ⟨b, o + 4, none⟩ = some u4 ∧ w'.cell? ⟨b, o + 5, none⟩ = some vb9 ∧ w'.cell? ⟨b, o + 6, none⟩ = some u6 ∧ Kp No V w' := fun V vb2 h1 h2 a0 a1 a2 a3 a4 a5 a6 => by
    have hs := same_any kx vb9 vb2 V kx_ok h2 h1
    rw [hbv] at hs
    exact hs.mono fun e w' ⟨he, hk⟩ => ⟨he, hk.cell' a0 id, hk.cell' a1 id, hk.cell' a2 id, hk.cell' a3 id, hk.cell' a4 id, hk.cell' a5 id, hk.cell' a6 id, hk⟩
  rw [← hu0] at c0
  rw [← hu1] at c1
  rw [← hu2] at c2
  rw [← hu3] at c3
  rw [← hu4] at c4
  rw [← hu6] at c6
  have hcall : Calls Tryz.prog 9 #[.int .u64 5] w9.drew fun e W => ∃ vb2, e = .returned (bval (bt 5) vb2) ∧ W.cell? ⟨b, o, none⟩ = some u0 ∧ W.cell? ⟨b, o + 1, none⟩ = some u1 ∧ W.cell? ⟨b, o + 2, none⟩ = some u2 ∧ W.cell? ⟨b, o + 3, none⟩ = some u3 ∧ W.cell? ⟨b, o + 4, none⟩ = some u4 ∧ W.cell? ⟨b, o + 5, none⟩ = some vb9 ∧ W.cell? ⟨b, o + 6, none⟩ = some u6 ∧ Hid (Bs W vb2 kx.bytes ∧ Bs W vb9 kx.bytes ∧ Kp No w W) :=
    (batch_any 5 w9.drew).mono fun e W ⟨vb2, he, hb, hk⟩ => by
      have hV : Kp No w9 W := (Kp.refl No w9).drew.trans' hk
      exact ⟨vb2, he, hV.cell' c0 id, hV.cell' c1 id, hV.cell' c2 id, hV.cell' c3 id, hV.cell' c4 id, hV.cell' c5 id, hV.cell' c6 id, Hid_mk ⟨hb, bs_no hbs9 hV, K9.out.trans' hV⟩⟩
  have HC := Hid_mk hcall
  have HSm := Hid_mk hsame
  clear hcall hbs9 hsame hbv hu0 hu1 hu2 hu3 hu4 hu6
  go_region_held3 (fun W => W.cell? ⟨b, o, none⟩ = some u0 ∧ W.cell? ⟨b, o + 1, none⟩ = some u1 ∧ W.cell? ⟨b, o + 2, none⟩ = some u2 ∧ W.cell? ⟨b, o + 3, none⟩ = some u3 ∧ W.cell? ⟨b, o + 4, none⟩ = some u4 ∧ W.cell? ⟨b, o + 5, none⟩ = some vb9 ∧ W.cell? ⟨b, o + 6, none⟩ = some u6)
    (first
      | go_keep
      | (dsimp only; exact ⟨c0, c1, c2, c3, c4, c5, c6⟩)
      | assumption)
    (first
      | (go_at_call 9; (with_reducible refine HC.out.mono ?_); rintro e W1 ⟨vb2, rfl, e0, e1, e2, e3, e4, e5, e6, HH⟩)
      | (go_at_call 21; (with_reducible refine (HSm.out _ _ HH.out.1 HH.out.2.1 e0 e1 e2 e3 e4 e5 e6).mono ?_); rintro e W2 ⟨rfl, f0, f1, f2, f3, f4, f5, f6, hkw⟩))
  have HKw := Hid_mk (HH.out.2.2.trans' hkw)
  clear f0 f1 f2 f3 f4 f5 f6 hkw
  go_wp2
  go_ret
  exact ⟨rfl, HKw.out⟩

end Go.Proofs.YteekcbbdbciddaaGreatDoor.wal
