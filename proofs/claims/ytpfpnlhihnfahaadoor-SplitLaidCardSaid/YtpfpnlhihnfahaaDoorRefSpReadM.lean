/- The reference's ReadSplit: a splitter of its bytes. The reference's Sum. The reference's Seal. What the reference lays: a number, a text. A slice of slices of bytes: as it is read, as it is owned; one more of them. The reference's Splitter: its bytes. -/
import Derived.Test.YtpfpnlhihnfahaaDoorSpLayM
import Derived.Test.YtpfpnlhihnfahaaDoorParasM
import Derived.Test.YtpfpnlhihnfahaaDoorRefFloatM
import Derived.Test.YtpfpnlhihnfahaaDoorFloorM
import Derived.Test.YtpfpnlhihnfahaaDoorTurnedPlainM
import Derived.Test.YtpfpnlhihnfahaaDoorBaseM
import Derived.Deep.AppendLies
import Derived.Deep.RegionHeld3

namespace Go.Proofs.YtpfpnlhihnfahaaDoor.spl
open Go.RowKit Go.Maps Go.Proofs.YtpfpnlhihnfahaaDoor.sum Go.Proofs.YtpfpnlhihnfahaaDoor.kept Go.Proofs.YtpfpnlhihnfahaaDoor.app Go.Proofs.YtpfpnlhihnfahaaDoor.writer Go.Proofs.YtpfpnlhihnfahaaDoor.clone Go.Proofs.YtpfpnlhihnfahaaDoor.known Go.Proofs.YtpfpnlhihnfahaaDoor.unseal Go.Proofs.YtpfpnlhihnfahaaDoor.snp Go.Proofs.YtpfpnlhihnfahaaDoor.reader Go.Proofs.YtpfpnlhihnfahaaDoor.onePlain
set_option linter.unusedVariables false

theorem bs_ltR {w : World} {v : Value} {bs : List UInt8} (hb : Bs w v bs) (hne : bs ≠ []) (x o n c : Nat) (e : v = .slice (some ⟨x, o, none⟩) n c) : x < w.heap.size := by
  obtain ⟨a2, c2, e2, -, -, h4⟩ := hb
  obtain ⟨b2, o2, e3, hc⟩ := h4 hne
  rw [e] at e2
  simp only [Value.slice.injEq] at e2
  rw [← e2.1] at e3
  cases e3
  exact World.block_lt_of_cell? w _ (hc 0 (List.length_pos_iff.2 hne))
/-- what ReadSplit leaves: all that it makes lies in new memory -/
def RrPost (w : World) (pr : Nat) (v : Value) (bs : List UInt8) (m : Nat) (s : SpS) (a b : Nat) (e : Ending) (w' : World) : Prop :=
  ∃ r, e = .returned (.pointer (some ⟨r, 0, none⟩)) ∧ w.heap.size ≤ r ∧ Rs (fun x => w.heap.size ≤ x ∧ x ≠ r) w' r m s ∧ ref.RR w' pr v bs a b ∧ Kp (fun k => k = pr) w w'

set_option maxRecDepth 100000 in
set_option maxHeartbeats 8000000 in
theorem rread_any (w : World) (pr : Nat) (v : Value) (bs : List UInt8) (at_ bad m : Nat) (h : ref.RR w pr v bs at_ bad) (hm1 : 1 ≤ m) (hm2 : m ≤ 200) :
    Calls Tryd.prog 24 #[.pointer (some ⟨pr, 0, none⟩), .int .i64 (m : Int)] w (RrPost w pr v bs m (readS m bs at_ bad).1 (readS m bs at_ bad).2.1 (readS m bs at_ bad).2.2) := by
  obtain ⟨⟨x, a1, b1⟩, h1⟩ : ∃ A, rText bs at_ bad m = A := ⟨_, rfl⟩
  obtain ⟨⟨k, a2, b2⟩, h2⟩ : ∃ A, rByte bs a1 b1 3 = A := ⟨_, rfl⟩
  obtain ⟨⟨y, a3, b3⟩, h3⟩ : ∃ A, rText bs a2 b2 2048 = A := ⟨_, rfl⟩
  have hR : readS m bs at_ bad = (if b3 = 0 then ⟨x, decide (k % 2 = 1), decide (k / 2 = 1), y⟩ else zeroS, a3, b3) := by unfold readS; simp only [h1, h2, h3]
  obtain ⟨sR, hsR⟩ : ∃ sR, (if b3 = 0 then ⟨x, decide (k % 2 = 1), decide (k / 2 = 1), y⟩ else zeroS) = sR := ⟨_, rfl⟩
  rw [hsR] at hR
  rw [hR]
  have HSR := Hid_mk hsR
  have hk3 : k ≤ 3 := by have := rByte_le bs a1 b1 3; rw [h2] at this; exact this
  have hxm : x.length ≤ m := by have := rText_most bs at_ bad m; rw [h1] at this; exact this
  have hym : y.length ≤ 2048 := by have := rText_most bs a2 b2 2048; rw [h3] at this; exact this
  have H := Hid_mk h
  have hprlt : pr < w.heap.size := h.lt
  have i1 : ¬ (m : Int) < 1 := by omega
  have i2 : ¬ (200 : Int) < (m : Int) := by omega
  have HT1 := Hid_mk fun W (hW : Kp No w W) => (show Calls Tryd.prog 43 #[.pointer (some ⟨pr, 0, none⟩), .int .i64 (m : Int)] W (ref.RRPost W pr v bs (.string (tx x)) a1 b1) by
    have := ref.text_any W pr v bs at_ bad (m : Int) (by omega) (h.same hW)
    rw [Int.toNat_natCast, h1] at this
    exact this)
  have HB := Hid_mk fun W (hW : ref.RR W pr v bs a1 b1) => (show Calls Tryd.prog 44 #[.pointer (some ⟨pr, 0, none⟩), .int .u8 3] W (ref.RRPost W pr v bs (.int .u8 (k : Int)) a2 b2) by
    have := ref.byte_any W pr v bs a1 b1 3 hW
    rw [h2] at this
    exact this)
  have HT2 := Hid_mk fun W (hW : ref.RR W pr v bs a2 b2) => (show Calls Tryd.prog 43 #[.pointer (some ⟨pr, 0, none⟩), .int .i64 2048] W (ref.RRPost W pr v bs (.string (tx y)) a3 b3) by
    have := ref.text_any W pr v bs a2 b2 2048 (by omega) hW
    rw [show (2048 : Int).toNat = 2048 from rfl, h3] at this
    exact this)
  clear h1 h2 h3 hR h hsR
  obtain ⟨w1, hw1⟩ : ∃ w1, w.alloc (.cells #[.int .i64 (m : Int), .slice none 0 0, .bool false, .bool false, .slice none 0 0] 32) = w1 := ⟨_, rfl⟩
  obtain ⟨r, hr⟩ : ∃ r, w.heap.size = r := ⟨_, rfl⟩
  have HR0 := Hid_mk hr
  have hs1 : Rs (fun x => w.heap.size ≤ x ∧ x ≠ r) w1 r m zeroS := ⟨.slice none 0 0, .slice none 0 0, by rw [← hw1, ← hr]; simp, by rw [← hw1, ← hr]; simp, by rw [← hw1, ← hr]; simp [zeroS], by rw [← hw1, ← hr]; simp [zeroS], by rw [← hw1, ← hr]; simp, fun o => by rw [← hw1, ← hr]; simp, ⟨none, 0, rfl, Nat.le_refl _, Nat.zero_le _, fun h => absurd rfl h⟩, ⟨none, 0, rfl, Nat.le_refl _, Nat.zero_le _, fun h => absurd rfl h⟩, fun h => absurd rfl h, fun h => absurd rfl h, fun h => h.2 rfl, fun k hk => by
    rw [← hw1] at hk
    simp at hk
    exact ⟨by omega, by omega⟩⟩
  have HS1 := Hid_mk hs1
  have HK1 : Hid (Kp No w w1) := Hid_mk (by rw [← hw1]; exact (Kp.refl _ _).alloc _)
  have hrp : ¬ r = pr := by omega
  have HRp := Hid_mk hrp
  clear hs1
  go_enter Tryd.func24, Tryd.ntmps24
  go_wp2_with fail
  try simp only [hw1, hr]
  clear hw1 hr
  with_reducible refine (HT1.out w1 HK1.out).mono ?_
  intro e w2 hpost
  obtain ⟨he, hrd2, hk2⟩ : e = .returned (.string (tx x)) ∧ ref.RR w2 pr v bs a1 b1 ∧ Kp (fun k => k = pr) w1 w2 := hpost
  subst he
  have HRd2 := Hid_mk hrd2
  have keep : ∀ (W W' : World) (s : SpS), Rs (fun x => w.heap.size ≤ x ∧ x ≠ r) W r m s → Kp (fun k => k = pr) W W' → Rs (fun x => w.heap.size ≤ x ∧ x ≠ r) W' r m s := fun W W' s h hk => by
    obtain ⟨vh, vr, hh⟩ := h
    exact ⟨vh, vr, hh.kept hk HRp.out (fun hne x o n c e e2 => by have := (hh.ah hne x o n c e).1; omega) (fun hne x o n c e e2 => by have := (hh.ar hne x o n c e).1; omega)⟩
  have HKeep := Hid_mk keep
  have HS2 := Hid_mk (keep _ _ _ HS1.out hk2)
  have HK2 := Hid_mk ((HK1.out.to (S := fun k => k = pr)).trans' hk2)
  clear hrd2 hk2 HT1 HS1 HK1 keep
  go_wp2_with fail
  with_reducible refine (HB.out w2 HRd2.out).mono ?_
  intro e w3 hpost
  obtain ⟨he, hrd3, hk3'⟩ : e = .returned (.int .u8 (k : Int)) ∧ ref.RR w3 pr v bs a2 b2 ∧ Kp (fun k => k = pr) w2 w3 := hpost
  subst he
  have HRd3 := Hid_mk hrd3
  have HS3 := Hid_mk (HKeep.out _ _ _ HS2.out hk3')
  have HK3 := Hid_mk (HK2.out.trans' hk3')
  clear hrd3 hk3' HB HS2 HK2 HRd2
  go_wp2_with fail
  with_reducible refine (HT2.out w3 HRd3.out).mono ?_
  intro e w4 hpost
  obtain ⟨he, hrd4, hk4'⟩ : e = .returned (.string (tx y)) ∧ ref.RR w4 pr v bs a3 b3 ∧ Kp (fun k => k = pr) w3 w4 := hpost
  subst he
  have c2 := hrd4.c2
  have HRd4 := Hid_mk hrd4
  have HS4 := Hid_mk (HKeep.out _ _ _ HS3.out hk4')
  have HK4 := Hid_mk (HK3.out.trans' hk4')
  clear hrd4 hk4' HT2 HS3 HK3 HRd3
  by_cases hb3 : b3 = 0
  · subst hb3
    have HSe : Hid ((⟨x, decide (k % 2 = 1), decide (k / 2 = 1), y⟩ : SpS) = sR) := Hid_mk (by have := HSR.out; rw [if_pos rfl] at this; exact this)
    obtain ⟨vh, vr, hh⟩ := HS4.out
    obtain ⟨x6, W6, hr6, hw6, hk6⟩ := conv_wi w4 x (by unfold maxLen; omega)
    have hh6 := hh.no hk6
    have d1 := hh6.c1
    have d2 := hh6.c2
    have d3 := hh6.c3
    have f1 := hh6.warm 1
    have f2 := hh6.warm 2
    have f3 := hh6.warm 3
    have g4 : w.heap.size ≤ w4.heap.size := HK4.out.size
    have hrl := hh.lt
    have HA := Hid_mk (hh6.set1 hw6.rd (fun hne x' o n c e => by cases e; exact ⟨g4, by omega⟩))
    have HK6 := Hid_mk (HK4.out.trans' hk6.to)
    have HRd6 := Hid_mk (HRd4.out.same hk6)
    clear hh hh6 hk6
    have hk4c : k = 0 ∨ k = 1 ∨ k = 2 ∨ k = 3 := by omega
    rcases hk4c with rfl | rfl | rfl | rfl
    · have hB := (HA.out.set2 false).set3 false
      obtain ⟨x7, W9, hr7, hw7, hk7⟩ := conv_wi (((W6.setCell ⟨r, 1, none⟩ (.slice (some ⟨w4.heap.size, 0, none⟩) x.length x6)).setCell ⟨r, 2, none⟩ (.bool false)).setCell ⟨r, 3, none⟩ (.bool false)) y (by unfold maxLen; omega)
      have es : (((W6.setCell ⟨r, 1, none⟩ (.slice (some ⟨w4.heap.size, 0, none⟩) x.length x6)).setCell ⟨r, 2, none⟩ (.bool false)).setCell ⟨r, 3, none⟩ (.bool false)).heap.size = W6.heap.size := by simp [World.setCell]
      rw [es] at hr7 hw7
      have hB9 := hB.no hk7
      have d4 := hB9.c4
      have f4 := hB9.warm 4
      have hs9 : w.heap.size ≤ W6.heap.size := HK6.out.size
      have hr8 : r < W6.heap.size := by have := hB.lt; rw [es] at this; exact this
      have hC := hB9.set4 hw7.rd (fun hne x' o n c e => by cases e; exact ⟨hs9, by omega⟩)
      have HC := Hid_mk hC
      have HRf := Hid_mk ((HRd6.out.kept (S := fun g => g = r) (((((Kp.refl (fun g => g = r) W6).setCell (p := ⟨r, 1, none⟩) (fun _ => rfl) _).setCell (p := ⟨r, 2, none⟩) (fun _ => rfl) _).setCell (p := ⟨r, 3, none⟩) (fun _ => rfl) _).trans' hk7.to) (fun e => HRp.out e.symm) (fun hne b o n c e e2 => by
        have h9 := bs_ltR H.out.reads hne b o n c e
        have e3 : b = r := e2
        have := HR0.out
        omega)))
      have HKf := Hid_mk (((((HK6.out.setCell (p := ⟨r, 1, none⟩) (fun h => by have := HR0.out; simp only at h; omega) _).setCell (p := ⟨r, 2, none⟩) (fun h => by have := HR0.out; simp only at h; omega) _).setCell (p := ⟨r, 3, none⟩) (fun h => by have := HR0.out; simp only at h; omega) _).trans' hk7.to))
      clear hB hB9 hC hk7 hw7 hs9 hr8 es
      go_wp2
      go_ret
      refine ⟨r, rfl, by have := HR0.out; omega, by rw [← HSe.out]; exact ⟨_, _, HC.out⟩, ?_, ?_⟩
      · exact HRf.out.kept (S := fun g => g = r) ((Kp.refl (fun g => g = r) W9).setCell (p := ⟨r, 4, none⟩) (fun _ => rfl) _) (fun e => HRp.out e.symm) (fun hne b o n c e e2 => by
          have h9 := bs_ltR H.out.reads hne b o n c e
          have e3 : b = r := e2
          have := HR0.out
          omega)
      · exact HKf.out.setCell (p := ⟨r, 4, none⟩) (fun h => by have := HR0.out; simp only at h; omega) _
    · have hB := (HA.out.set2 true).set3 false
      obtain ⟨x7, W9, hr7, hw7, hk7⟩ := conv_wi (((W6.setCell ⟨r, 1, none⟩ (.slice (some ⟨w4.heap.size, 0, none⟩) x.length x6)).setCell ⟨r, 2, none⟩ (.bool true)).setCell ⟨r, 3, none⟩ (.bool false)) y (by unfold maxLen; omega)
      have es : (((W6.setCell ⟨r, 1, none⟩ (.slice (some ⟨w4.heap.size, 0, none⟩) x.length x6)).setCell ⟨r, 2, none⟩ (.bool true)).setCell ⟨r, 3, none⟩ (.bool false)).heap.size = W6.heap.size := by simp [World.setCell]
      rw [es] at hr7 hw7
      have hB9 := hB.no hk7
      have d4 := hB9.c4
      have f4 := hB9.warm 4
      have hs9 : w.heap.size ≤ W6.heap.size := HK6.out.size
      have hr8 : r < W6.heap.size := by have := hB.lt; rw [es] at this; exact this
      have hC := hB9.set4 hw7.rd (fun hne x' o n c e => by cases e; exact ⟨hs9, by omega⟩)
      have HC := Hid_mk hC
      have HRf := Hid_mk ((HRd6.out.kept (S := fun g => g = r) (((((Kp.refl (fun g => g = r) W6).setCell (p := ⟨r, 1, none⟩) (fun _ => rfl) _).setCell (p := ⟨r, 2, none⟩) (fun _ => rfl) _).setCell (p := ⟨r, 3, none⟩) (fun _ => rfl) _).trans' hk7.to) (fun e => HRp.out e.symm) (fun hne b o n c e e2 => by
        have h9 := bs_ltR H.out.reads hne b o n c e
        have e3 : b = r := e2
        have := HR0.out
        omega)))
      have HKf := Hid_mk (((((HK6.out.setCell (p := ⟨r, 1, none⟩) (fun h => by have := HR0.out; simp only at h; omega) _).setCell (p := ⟨r, 2, none⟩) (fun h => by have := HR0.out; simp only at h; omega) _).setCell (p := ⟨r, 3, none⟩) (fun h => by have := HR0.out; simp only at h; omega) _).trans' hk7.to))
      clear hB hB9 hC hk7 hw7 hs9 hr8 es
      go_wp2
      go_ret
      refine ⟨r, rfl, by have := HR0.out; omega, by rw [← HSe.out]; exact ⟨_, _, HC.out⟩, ?_, ?_⟩
      · exact HRf.out.kept (S := fun g => g = r) ((Kp.refl (fun g => g = r) W9).setCell (p := ⟨r, 4, none⟩) (fun _ => rfl) _) (fun e => HRp.out e.symm) (fun hne b o n c e e2 => by
          have h9 := bs_ltR H.out.reads hne b o n c e
          have e3 : b = r := e2
          have := HR0.out
          omega)
      · exact HKf.out.setCell (p := ⟨r, 4, none⟩) (fun h => by have := HR0.out; simp only at h; omega) _
    · have hB := (HA.out.set2 false).set3 true
      obtain ⟨x7, W9, hr7, hw7, hk7⟩ := conv_wi (((W6.setCell ⟨r, 1, none⟩ (.slice (some ⟨w4.heap.size, 0, none⟩) x.length x6)).setCell ⟨r, 2, none⟩ (.bool false)).setCell ⟨r, 3, none⟩ (.bool true)) y (by unfold maxLen; omega)
      have es : (((W6.setCell ⟨r, 1, none⟩ (.slice (some ⟨w4.heap.size, 0, none⟩) x.length x6)).setCell ⟨r, 2, none⟩ (.bool false)).setCell ⟨r, 3, none⟩ (.bool true)).heap.size = W6.heap.size := by simp [World.setCell]
      rw [es] at hr7 hw7
      have hB9 := hB.no hk7
      have d4 := hB9.c4
      have f4 := hB9.warm 4
      have hs9 : w.heap.size ≤ W6.heap.size := HK6.out.size
      have hr8 : r < W6.heap.size := by have := hB.lt; rw [es] at this; exact this
      have hC := hB9.set4 hw7.rd (fun hne x' o n c e => by cases e; exact ⟨hs9, by omega⟩)
      have HC := Hid_mk hC
      have HRf := Hid_mk ((HRd6.out.kept (S := fun g => g = r) (((((Kp.refl (fun g => g = r) W6).setCell (p := ⟨r, 1, none⟩) (fun _ => rfl) _).setCell (p := ⟨r, 2, none⟩) (fun _ => rfl) _).setCell (p := ⟨r, 3, none⟩) (fun _ => rfl) _).trans' hk7.to) (fun e => HRp.out e.symm) (fun hne b o n c e e2 => by
        have h9 := bs_ltR H.out.reads hne b o n c e
        have e3 : b = r := e2
        have := HR0.out
        omega)))
      have HKf := Hid_mk (((((HK6.out.setCell (p := ⟨r, 1, none⟩) (fun h => by have := HR0.out; simp only at h; omega) _).setCell (p := ⟨r, 2, none⟩) (fun h => by have := HR0.out; simp only at h; omega) _).setCell (p := ⟨r, 3, none⟩) (fun h => by have := HR0.out; simp only at h; omega) _).trans' hk7.to))
      clear hB hB9 hC hk7 hw7 hs9 hr8 es
      go_wp2
      go_ret
      refine ⟨r, rfl, by have := HR0.out; omega, by rw [← HSe.out]; exact ⟨_, _, HC.out⟩, ?_, ?_⟩
      · exact HRf.out.kept (S := fun g => g = r) ((Kp.refl (fun g => g = r) W9).setCell (p := ⟨r, 4, none⟩) (fun _ => rfl) _) (fun e => HRp.out e.symm) (fun hne b o n c e e2 => by
          have h9 := bs_ltR H.out.reads hne b o n c e
          have e3 : b = r := e2
          have := HR0.out
          omega)
      · exact HKf.out.setCell (p := ⟨r, 4, none⟩) (fun h => by have := HR0.out; simp only at h; omega) _
    · have hB := (HA.out.set2 true).set3 true
      obtain ⟨x7, W9, hr7, hw7, hk7⟩ := conv_wi (((W6.setCell ⟨r, 1, none⟩ (.slice (some ⟨w4.heap.size, 0, none⟩) x.length x6)).setCell ⟨r, 2, none⟩ (.bool true)).setCell ⟨r, 3, none⟩ (.bool true)) y (by unfold maxLen; omega)
      have es : (((W6.setCell ⟨r, 1, none⟩ (.slice (some ⟨w4.heap.size, 0, none⟩) x.length x6)).setCell ⟨r, 2, none⟩ (.bool true)).setCell ⟨r, 3, none⟩ (.bool true)).heap.size = W6.heap.size := by simp [World.setCell]
      rw [es] at hr7 hw7
      have hB9 := hB.no hk7
      have d4 := hB9.c4
      have f4 := hB9.warm 4
      have hs9 : w.heap.size ≤ W6.heap.size := HK6.out.size
      have hr8 : r < W6.heap.size := by have := hB.lt; rw [es] at this; exact this
      have hC := hB9.set4 hw7.rd (fun hne x' o n c e => by cases e; exact ⟨hs9, by omega⟩)
      have HC := Hid_mk hC
      have HRf := Hid_mk ((HRd6.out.kept (S := fun g => g = r) (((((Kp.refl (fun g => g = r) W6).setCell (p := ⟨r, 1, none⟩) (fun _ => rfl) _).setCell (p := ⟨r, 2, none⟩) (fun _ => rfl) _).setCell (p := ⟨r, 3, none⟩) (fun _ => rfl) _).trans' hk7.to) (fun e => HRp.out e.symm) (fun hne b o n c e e2 => by
        have h9 := bs_ltR H.out.reads hne b o n c e
        have e3 : b = r := e2
        have := HR0.out
        omega)))
      have HKf := Hid_mk (((((HK6.out.setCell (p := ⟨r, 1, none⟩) (fun h => by have := HR0.out; simp only at h; omega) _).setCell (p := ⟨r, 2, none⟩) (fun h => by have := HR0.out; simp only at h; omega) _).setCell (p := ⟨r, 3, none⟩) (fun h => by have := HR0.out; simp only at h; omega) _).trans' hk7.to))
      clear hB hB9 hC hk7 hw7 hs9 hr8 es
      go_wp2
      go_ret
      refine ⟨r, rfl, by have := HR0.out; omega, by rw [← HSe.out]; exact ⟨_, _, HC.out⟩, ?_, ?_⟩
      · exact HRf.out.kept (S := fun g => g = r) ((Kp.refl (fun g => g = r) W9).setCell (p := ⟨r, 4, none⟩) (fun _ => rfl) _) (fun e => HRp.out e.symm) (fun hne b o n c e e2 => by
          have h9 := bs_ltR H.out.reads hne b o n c e
          have e3 : b = r := e2
          have := HR0.out
          omega)
      · exact HKf.out.setCell (p := ⟨r, 4, none⟩) (fun h => by have := HR0.out; simp only at h; omega) _
  · have hbi : ¬ (b3 : Int) = 0 := by omega
    have HZ : Hid (zeroS = sR) := Hid_mk (by have := HSR.out; rw [if_neg hb3] at this; exact this)
    go_wp2
    go_ret
    exact ⟨r, rfl, by have := HR0.out; omega, by rw [← HZ.out]; exact HS4.out, HRd4.out, HK4.out⟩

end Go.Proofs.YtpfpnlhihnfahaaDoor.spl

namespace Go.Proofs.YtpfpnlhihnfahaaDoor.ref
open Go.RowKit Go.Proofs.YtpfpnlhihnfahaaDoor.sum Go.Proofs.YtpfpnlhihnfahaaDoor.kept Go.Proofs.YtpfpnlhihnfahaaDoor.writer Go.Proofs.YtpfpnlhihnfahaaDoor.clone Go.Proofs.YtpfpnlhihnfahaaDoor.known Go.Proofs.YtpfpnlhihnfahaaDoor.unseal
set_option linter.unusedVariables false

theorem wrapU (z : Int) (h : 0 ≤ z) (h2 : z < 18446744073709551616) : IntKind.u64.wrap z = z := by
  simp only [IntKind.wrap, IntKind.bits, IntKind.signed]
  simp
  omega

def SumRel (bs : List UInt8) (w : World) (i re im : Value) (wr : World) : Prop :=
  ∃ k, k ≤ bs.length ∧ i = .int .i64 ((k : Nat) : Int) ∧ re = .int .u64 ((pl.sum (bs.take k)).1 : Int) ∧ im = .int .u64 ((pl.sum (bs.take k)).2 : Int) ∧ wr = w

section
variable {p q x : Nat} (hp : p < 16777199) (hq : q < 16777199) (hx : x < 256)
include hp in
theorem s1 : IntKind.u64.wrap (257 * (p : Int)) = 257 * (p : Int) := wrapU _ (by omega) (by omega)
include hp hx in
theorem s2 : IntKind.u64.wrap (257 * (p : Int) + (x : Int)) = 257 * (p : Int) + (x : Int) := wrapU _ (by omega) (by omega)
include hp hx in
theorem s3 : IntKind.u64.wrap (257 * (p : Int) + (x : Int) + 1) = 257 * (p : Int) + (x : Int) + 1 := wrapU _ (by omega) (by omega)
include hq in
theorem s4 : IntKind.u64.wrap (16777199 - (q : Int)) = 16777199 - (q : Int) := wrapU _ (by omega) (by omega)
include hq in
theorem s5 : IntKind.u64.wrap (3 * (16777199 - (q : Int))) = 3 * (16777199 - (q : Int)) := wrapU _ (by omega) (by omega)
include hp hq hx in
theorem s6 : IntKind.u64.wrap (257 * (p : Int) + (x : Int) + 1 + 3 * (16777199 - (q : Int))) = 257 * (p : Int) + (x : Int) + 1 + 3 * (16777199 - (q : Int)) := wrapU _ (by omega) (by omega)
include hp in
theorem s7 : IntKind.u64.wrap (3 * (p : Int)) = 3 * (p : Int) := wrapU _ (by omega) (by omega)
include hp hq in
theorem s8 : IntKind.u64.wrap (257 * (q : Int) + 3 * (p : Int)) = 257 * (q : Int) + 3 * (p : Int) := wrapU _ (by omega) (by omega)
include hq in
theorem s_re : (257 * (p : Int) + (x : Int) + 1 + 3 * (16777199 - (q : Int))) % 16777199 = (((257 * p + x + 1 + 3 * (16777199 - q)) % 16777199 : Nat) : Int) := by omega
theorem s_im : (257 * (q : Int) + 3 * (p : Int)) % 16777199 = (((257 * q + 3 * p) % 16777199 : Nat) : Int) := by omega
end

theorem SumRel.next {bs : List UInt8} {w : World} {k p q x : Nat} {X : UInt8} (hlt : k < bs.length) (hs : pl.sum (bs.take k) = (p, q)) (hX : bs.getD k 0 = X) (hx : X.toNat = x) (hq : q < 16777199) :
    SumRel bs w (.int .i64 ((k + 1 : Nat) : Int)) (.int .u64 ((257 * (p : Int) + (x : Int) + 1 + 3 * (16777199 - (q : Int))) % 16777199)) (.int .u64 ((257 * (q : Int) + 3 * (p : Int)) % 16777199)) w := by
  have hfin := pl.sum_snoc (bs.take k) (bs.getD k 0)
  rw [← take_snoc hlt, hs, hX] at hfin
  refine ⟨k + 1, hlt, rfl, ?_, ?_, rfl⟩
  · rw [hfin, s_re hq]; unfold pl.step pl.P; rw [hx]
  · rw [hfin, s_im]; rfl

end Go.Proofs.YtpfpnlhihnfahaaDoor.ref

namespace Go.Proofs.YtpfpnlhihnfahaaDoor.ref
open Go.RowKit Go.Proofs.YtpfpnlhihnfahaaDoor.sum Go.Proofs.YtpfpnlhihnfahaaDoor.kept Go.Proofs.YtpfpnlhihnfahaaDoor.app Go.Proofs.YtpfpnlhihnfahaaDoor.writer Go.Proofs.YtpfpnlhihnfahaaDoor.clone Go.Proofs.YtpfpnlhihnfahaaDoor.known Go.Proofs.YtpfpnlhihnfahaaDoor.seal Go.Proofs.YtpfpnlhihnfahaaDoor.unseal
set_option linter.unusedVariables false

/-- a literal of six bytes, as laid by the call -/
theorem bs_tail (w : World) (s : Nat × Nat) : Bs (w.alloc (.cells #[.int .u8 ((s.1 : Int) % 256), .int .u8 ((s.1 : Int) / 256 % 256), .int .u8 ((s.1 : Int) / 65536 % 256), .int .u8 ((s.2 : Int) % 256), .int .u8 ((s.2 : Int) / 256 % 256), .int .u8 ((s.2 : Int) / 65536 % 256)] 5)) (.slice (some ⟨w.heap.size, 0, none⟩) 6 6) (tail s) := by
  obtain ⟨m, n⟩ := s
  simp only
  have e1 : (m : Int) % 256 = ((m % 256 : Nat) : Int) := by omega
  have e2 : (m : Int) / 256 % 256 = ((m / 256 % 256 : Nat) : Int) := by omega
  have e3 : (m : Int) / 65536 % 256 = ((m / 65536 % 256 : Nat) : Int) := by omega
  have e4 : (n : Int) % 256 = ((n % 256 : Nat) : Int) := by omega
  have e5 : (n : Int) / 256 % 256 = ((n / 256 % 256 : Nat) : Int) := by omega
  have e6 : (n : Int) / 65536 % 256 = ((n / 65536 % 256 : Nat) : Int) := by omega
  rw [e1, e2, e3, e4, e5, e6]
  refine ⟨_, 6, rfl, Nat.le_refl _, by decide, fun _ => ⟨_, _, rfl, fun k hk => ?_⟩⟩
  rw [tail_len] at hk
  rw [show tail (m, n) = [m.toUInt8, (m / 256).toUInt8, (m / 65536).toUInt8, n.toUInt8, (n / 256).toUInt8, (n / 65536).toUInt8] from rfl]
  match k, hk with
  | 0, _ => simp [B, u8_toNat]
  | 1, _ => simp [B, u8_toNat]
  | 2, _ => simp [B, u8_toNat]
  | 3, _ => simp [B, u8_toNat]
  | 4, _ => simp [B, u8_toNat]
  | 5, _ => simp [B, u8_toNat]

end Go.Proofs.YtpfpnlhihnfahaaDoor.ref

namespace Go.Proofs.YtpfpnlhihnfahaaDoor.ref
open Go.RowKit Go.Proofs.YtpfpnlhihnfahaaDoor.sum Go.Proofs.YtpfpnlhihnfahaaDoor.kept Go.Proofs.YtpfpnlhihnfahaaDoor.app Go.Proofs.YtpfpnlhihnfahaaDoor.writer Go.Proofs.YtpfpnlhihnfahaaDoor.clone Go.Proofs.YtpfpnlhihnfahaaDoor.known Go.Proofs.YtpfpnlhihnfahaaDoor.unseal Go.Proofs.YtpfpnlhihnfahaaDoor.number Go.Proofs.YtpfpnlhihnfahaaDoor.words
set_option linter.unusedVariables false

def LayRel (n : Nat) (w : World) (t out : Value) (wr : World) : Prop :=
  ∃ (m : Nat) (pre : List UInt8), t = .int .u64 m ∧ m < U64 ∧ pre ++ num m = num n ∧ wr.ownsRow w.heap.size 5 1 out pre.length (pre.map B) ∧ Kp No w wr

theorem LayRel.next {n : Nat} {w w1 : World} {m : Nat} {pre : List UInt8} {v1 : Value} (hm : m < U64) (hbig : ¬ m < 128) (hpre : pre ++ num m = num n)
    (how : w1.ownsRow w.heap.size 5 1 v1 (pre ++ [(m % 128 + 128).toUInt8]).length ((pre ++ [(m % 128 + 128).toUInt8]).map B)) (hk : Kp No w w1) :
    LayRel n w (.int .u64 ((m / 128 : Nat) : Int)) v1 w1 := by
  refine ⟨m / 128, pre ++ [(m % 128 + 128).toUInt8], rfl, by omega, ?_, how, hk⟩
  rw [List.append_assoc, ← hpre, num_big hbig]; rfl

/-- what an append to a row of one's own leaves of what was there -/
theorem own_kept {w wr w1 : World} {v v' : Value} {bs cs : List UInt8} (hk : Kp No w wr) (ho : wr.ownsRow w.heap.size 5 1 v bs.length (bs.map B)) {o : Obj} (happ : App w.heap.size (wr.alloc o) v bs cs v' w1) : Kp No w w1 := by
  refine (hk.alloc _).grown happ.2.1 fun k hk e => ?_
  rcases owns_any ho with ⟨rfl, _⟩ | ⟨g, cap, rfl, hg1, hg2⟩
  · simp [Value.ownBlock] at e
  · simp [Value.ownBlock] at e; omega
theorem own_kept0 {w wr w1 : World} {v v' : Value} {bs cs : List UInt8} (hk : Kp No w wr) (ho : wr.ownsRow w.heap.size 5 1 v bs.length (bs.map B)) (happ : App w.heap.size wr v bs cs v' w1) : Kp No w w1 := by
  refine hk.grown happ.2.1 fun k hk e => ?_
  rcases owns_any ho with ⟨rfl, _⟩ | ⟨g, cap, rfl, hg1, hg2⟩
  · simp [Value.ownBlock] at e
  · simp [Value.ownBlock] at e; omega

theorem small_u8 (m : Nat) (h : m < 128) : (m : Int) % 256 = ((m.toUInt8.toNat : Nat) : Int) := by rw [seal.u8_toNat]; omega
theorem small_u8' (m : Nat) (h : m < 128) : (Value.int .u8 (m : Int)) = Value.int .u8 ((m.toUInt8.toNat : Nat) : Int) := by rw [seal.u8_toNat]; congr 1; omega
theorem big_u8 (m : Nat) : (m : Int) % 128 + 128 = (((m % 128 + 128).toUInt8.toNat : Nat) : Int) := by rw [seal.u8_toNat]; omega

theorem num_pos (n : Nat) : 0 < (num n).length := by rw [num]; split <;> simp

set_option maxRecDepth 100000 in
set_option maxHeartbeats 2000000 in
theorem lay_num (w : World) (n : Nat) (hn : n < U64) : Calls Tryd.prog 39 #[.int .u64 (n : Int)] w (NewBs w (num n)) := by
  have HN := Hid_mk hn
  clear hn
  go_enter Tryd.func39, Tryd.ntmps39
  go_wp2
  go_loopw [0, 3] (fun t out wr => LayRel n w t out wr) (fun t _ _ => (intOf t).toNat)
  case atStart => exact ⟨n, [], rfl, HN.out, rfl, World.ownsRow_nil _ _ _ _, Kp.refl _ _⟩
  case round =>
    obtain ⟨m, pre, rfl, hm, hpre, how, hkp⟩ := hrel
    have hlen : pre.length + (num m).length ≤ 10 := by rw [← List.length_append, hpre]; exact num_len n 10 (by have hn := HN.out; rw [u64_eq] at hn; omega) (by omega)
    have HPre := Hid_mk hpre
    have HOw := Hid_mk how
    have HK := Hid_mk hkp
    have HLen := Hid_mk hlen
    have HM := Hid_mk hm
    have hsz := hkp.size
    clear hpre how hkp hlen hm
    by_cases hlt : m < 128
    · have hml : (m : Int) < 128 := by omega
      go_wp2_with (at_builtin; ((first | rw [small_u8 m hlt] | rw [small_u8' m hlt]); refine wpList_append_bs _ rfl _ _ rfl w.heap.size _ pre rfl (HOw.out.alloc _) _ [m.toUInt8] rfl (bs_one wr _) ?c1 ?c2 ?_))
      case c1 => have := HLen.out; simp; omega
      case c2 => simp; omega
      intro v' w1 happ
      have hfin : NewBs w (num n) (.returned v') w1 := by
        refine ⟨v', rfl, ?_, own_kept HK.out HOw.out happ⟩
        rw [← HPre.out, num_small hlt]
        exact happ.1
      have HF := Hid_mk hfin
      obtain ⟨g, cap, rfl, hg1, hg2⟩ := owns_some happ.1 (by simp)
      generalize (pre ++ [m.toUInt8]).length = L at *
      clear happ hfin
      go_wp2
      go_ret
      exact HF.out
    · have hml : ¬ (m : Int) < 128 := by omega
      obtain ⟨X, hX⟩ : ∃ X, (m % 128 + 128).toUInt8 = X := ⟨_, rfl⟩
      have hw : IntKind.u64.wrap ((m : Int) / 128) = (m : Int) / 128 := wrap_u64 _ (by omega) (by have := HM.out; rw [u64_eq] at this; omega)
      go_wp2_with (at_builtin; (rw [big_u8 m, hX]; refine wpList_append_bs _ rfl _ _ rfl w.heap.size _ pre rfl (HOw.out.alloc _) _ [X] rfl (bs_one wr _) ?c1 ?c2 ?_))
      case c1 => have := HLen.out; omega
      case c2 => have := HK.out.size; (try simp); omega
      intro v' w1 happ
      have hfin := LayRel.next HM.out hlt HPre.out (hX ▸ happ.1) (own_kept HK.out HOw.out happ)
      have HF := Hid_mk hfin
      obtain ⟨g, cap, rfl, hg1, hg2⟩ := owns_some happ.1 (by simp)
      generalize (pre ++ [X]).length = L at *
      clear happ hfin
      go_wp2
      go_roundw
      case rel => exact HF.out
      case measure => simp [intOf]; omega

set_option maxRecDepth 100000 in
set_option maxHeartbeats 2000000 in
theorem lay_text (w : World) (s : ByteArray) (hs : s.size + 10 < 140737488355328) : Calls Tryd.prog 21 #[.string s] w (NewBs w (num s.size ++ s.data.toList)) := by
  go_enter Tryd.func21, Tryd.ntmps21
  go_wp2_with fail
  refine (lay_num w s.size (by rw [u64_eq]; omega)).mono ?_
  rintro e w1 ⟨v1, rfl, ho, hk⟩
  have HO := Hid_mk ho
  have HK := Hid_mk hk
  have hlen : (num s.size).length ≤ 10 := num_len _ _ (by omega) (by omega)
  have HL := Hid_mk hlen
  have hsz := hk.size
  clear ho hk hlen
  go_wp2_with (at_builtin; (refine wpList_append_str _ rfl _ _ rfl w.heap.size _ (num s.size) rfl HO.out s rfl ?c1 hsz ?_))
  case c1 => have := HL.out; omega
  intro v' w2 happ
  have hfin : NewBs w (num s.size ++ s.data.toList) (.returned v') w2 := ⟨v', rfl, happ.1, own_kept0 HK.out HO.out happ⟩
  have HF := Hid_mk hfin
  obtain ⟨g, cap, rfl, hg1, hg2⟩ := owns_some happ.1 (by have := num_pos s.size; simp; omega)
  generalize (num s.size ++ s.data.toList).length = L at *
  clear happ hfin
  go_wp2
  go_ret
  exact HF.out

end Go.Proofs.YtpfpnlhihnfahaaDoor.ref

namespace Go.Proofs.YtpfpnlhihnfahaaDoor.lst
open Go.RowKit Go.Proofs.YtpfpnlhihnfahaaDoor.sum Go.Proofs.YtpfpnlhihnfahaaDoor.kept Go.Proofs.YtpfpnlhihnfahaaDoor.app Go.Proofs.YtpfpnlhihnfahaaDoor.writer Go.Proofs.YtpfpnlhihnfahaaDoor.clone
set_option linter.unusedVariables false

abbrev Els := List (Value × List UInt8)
def Els.vals (ps : Els) : List Value := ps.map (·.1)
def Els.texts (ps : Els) : List (List UInt8) := ps.map (·.2)
theorem vals_length (ps : Els) : ps.vals.length = ps.length := List.length_map _
theorem texts_length (ps : Els) : ps.texts.length = ps.length := List.length_map _

/-- read: a slice of these elements, each of these bytes -/
def Ls (w : World) (v : Value) (ps : Els) : Prop :=
  (∃ a cap, v = .slice a ps.length cap ∧ ps.length ≤ cap ∧ cap ≤ maxLen ∧ (ps ≠ [] → ∃ b o, a = some ⟨b, o, none⟩ ∧ ∀ k (h : k < ps.length), w.cell? ⟨b, o + k, none⟩ = some ps[k].1)) ∧ ∀ q ∈ ps, Bs w q.1 q.2

theorem Ls.no {w w' : World} {v : Value} {ps : Els} (h : Ls w v ps) (hk : Kp No w w') : Ls w' v ps := by
  obtain ⟨⟨a, cap, rfl, h1, h2, h3⟩, h4⟩ := h
  refine ⟨⟨a, cap, rfl, h1, h2, fun hne => ?_⟩, fun q hq => bs_no (h4 q hq) hk⟩
  obtain ⟨b, o, rfl, hc⟩ := h3 hne
  exact ⟨b, o, rfl, fun k hkk => hk.cell' (hc k hkk) id⟩

/-- owned: a row of one's own, each element a row of bytes of one's own -/
structure Lo (w : World) (base : Nat) (v : Value) (ps : Els) : Prop where
  row : w.ownsRow base 30 1 v ps.length ps.vals
  each : ∀ q ∈ ps, w.ownsRow base 5 1 q.1 q.2.length (q.2.map B)

theorem Lo.nil (w : World) (base : Nat) : Lo w base (.slice none 0 0) [] := ⟨World.ownsRow_nil _ _ _ _, fun q hq => by cases hq⟩
theorem Lo.low {w : World} {base base' : Nat} {v : Value} {ps : Els} (h : Lo w base v ps) (hb : base' ≤ base) : Lo w base' v ps := ⟨owns_base h.row hb, fun q hq => owns_base (h.each q hq) hb⟩
theorem Lo.kept {S : Nat → Prop} {w w' : World} {base : Nat} {v : Value} {ps : Els} (h : Lo w base v ps) (hk : Kp S w w') (hs : ∀ k, base ≤ k → k < w.heap.size → ¬ S k) : Lo w' base v ps :=
  ⟨owns_kept h.row hk fun k hkk => hs k (h.row.lt k hkk).1 (h.row.lt k hkk).2, fun q hq => owns_kept (h.each q hq) hk fun k hkk => hs k ((h.each q hq).lt k hkk).1 ((h.each q hq).lt k hkk).2⟩
theorem Lo.no {w w' : World} {base : Nat} {v : Value} {ps : Els} (h : Lo w base v ps) (hk : Kp No w w') : Lo w' base v ps := h.kept hk fun _ _ _ => id

theorem Lo.ls {w : World} {base : Nat} {v : Value} {ps : Els} (h : Lo w base v ps) : Ls w v ps := by
  refine ⟨?_, fun q hq => owns_bs (h.each q hq)⟩
  rcases h.row.2 with ⟨rfl, h0⟩ | ⟨g, cap, cur, rfl, hb, hg, r1, r2, r3, r4⟩
  · have : ps = [] := List.eq_nil_of_length_eq_zero h0
    subst this
    exact ⟨none, 0, rfl, Nat.le_refl _, Nat.zero_le _, fun h => absurd rfl h⟩
  · refine ⟨_, cap, rfl, r1, r2, fun _ => ⟨g, 0, rfl, fun k hk => ?_⟩⟩
    have := h.row.cells (g := g) rfl k ps[k].1 (by simp [Els.vals, hk])
    rw [addr_add] at this
    exact this

/-- a row of bytes is no row of slices -/
theorem rows_apart {w : World} {base base' : Nat} {v x : Value} {n m : Nat} {xs ys : List Value} (h : w.ownsRow base 30 1 v n xs) (k : w.ownsRow base' 5 1 x m ys) : ∀ g, x.ownBlock = some g → v.ownBlock ≠ some g := by
  intro g hg e
  rcases h.2 with ⟨rfl, _⟩ | ⟨g1, cap, cur, rfl, _, h1, _⟩
  · cases e
  · rcases k.2 with ⟨rfl, _⟩ | ⟨g2, cap2, cur2, rfl, _, h2, _⟩
    · cases hg
    · simp [Value.ownBlock] at e hg
      subst e hg
      rw [h1] at h2
      injection h2 with h2
      injection h2 with _ h3
      cases h3

theorem infoS : (Tryd.prog.info? 30).map (fun i => (i.zero, i.size, i.bytes)) = some (some (.slice none 0 0), 1, 24) := by kernel_rfl

/-- what an append of one element leaves -/
def Push (base : Nat) (w : World) (v : Value) (ps : Els) (x : Value) (bs : List UInt8) (v' : Value) (w' : World) : Prop :=
  Lo w' base v' (ps ++ [(x, bs)]) ∧ Kp (fun k => some k = v.ownBlock) w w' ∧ (v'.ownBlock = v.ownBlock ∨ v'.ownBlock = some w.heap.size) ∧ ∃ g cap, v' = .slice (some ⟨g, 0, none⟩) (ps.length + 1) cap

theorem step_append_bs (w : World) {ops : Array Oper} {o : Oper} {a : Act} {K : Act → World → Prop} {Q : Exit → Act → World → Prop} {E : Prop} (hgd : o.guard = none) (s x : Operand)
    (ho : o.op = .call { callee := .builtin .append, args := #[s, x], argTypes := #[30, 30] })
    (base : Nat) (v : Value) (bs : List UInt8) (hs : a.eval s = v) (hown : w.ownsRow base 5 1 v bs.length (bs.map B)) (xv : Value) (cs : List UInt8) (hx : a.eval x = xv) (hxs : Bs w xv cs)
    (hb : bs.length + cs.length ≤ 140737488355328) (hbase : base ≤ w.heap.size)
    (h : ∀ v' w', App base w v bs cs v' w' → K (a.put o.dst v') w') : if Region.wanted o (yielded ops a.tmps) = true then Oper.wp Tryd.prog o a w K Q else E := by
  have hw : Region.wanted o (yielded ops a.tmps) = true := by simp [Region.wanted, hgd]
  rw [if_pos hw]
  obtain ⟨v', w', hr, h2⟩ := run_append_bs w o.type base v bs hown xv cs hxs hb hbase
  unfold Oper.wp execOp
  simp only [ho, resolve, invoke, builtin, Sem.run_bind, Sem.run_pure, Result.andThen_ok, List.map_toArray, List.map_cons, List.map_nil, hs, hx, hr]
  exact h v' w' h2

theorem app_some {base : Nat} {w w' : World} {b n c : Nat} {bs cs : List UInt8} {v' : Value} (h : App base w (.slice (some ⟨b, 0, none⟩) n c) bs cs v' w') : ∃ g cap, v' = .slice (some ⟨g, 0, none⟩) (bs ++ cs).length cap ∧ (g = b ∨ g = w.heap.size) := by
  obtain ⟨h1, h2, h3, h4⟩ := h
  rcases h1.2 with ⟨e, h0⟩ | ⟨g, cap, cur, rfl, _⟩
  · have := h3.1 e
    simp at this
  · refine ⟨g, cap, rfl, ?_⟩
    simp [Value.ownBlock] at h4
    exact h4

theorem app_new {base : Nat} {w w' : World} {b n c : Nat} {cs : List UInt8} {v' : Value} (h : App base w (.slice (some ⟨b, 0, none⟩) n c) [] cs v' w') : ∃ g cap, v' = .slice (some ⟨g, 0, none⟩) cs.length cap ∧ w'.ownsRow base 5 1 v' cs.length (cs.map B) := by
  obtain ⟨g, cap, e, -⟩ := app_some h
  exact ⟨g, cap, e, by simpa using h.1⟩

/-- what a call leaves that makes a list -/
def NewLs (w : World) (l : List (List UInt8)) (e : Ending) (w' : World) : Prop := ∃ v' ps, e = .returned v' ∧ Lo w' w.heap.size v' ps ∧ ps.texts = l ∧ Kp No w w'

end Go.Proofs.YtpfpnlhihnfahaaDoor.lst

namespace Go.Proofs.YtpfpnlhihnfahaaDoor.spl
open Go.RowKit Go.Maps Go.Proofs.YtpfpnlhihnfahaaDoor.sum Go.Proofs.YtpfpnlhihnfahaaDoor.kept Go.Proofs.YtpfpnlhihnfahaaDoor.app Go.Proofs.YtpfpnlhihnfahaaDoor.writer Go.Proofs.YtpfpnlhihnfahaaDoor.clone Go.Proofs.YtpfpnlhihnfahaaDoor.known Go.Proofs.YtpfpnlhihnfahaaDoor.unseal Go.Proofs.YtpfpnlhihnfahaaDoor.snp
set_option linter.unusedVariables false

set_option maxRecDepth 100000 in
set_option maxHeartbeats 16000000 in
theorem rlay_any (T : Nat → Prop) (w : World) (r m : Nat) (s : SpS) (h : Rs T w r m s) (hl : s.held.length + s.rest.length + 40 < 140737488355328) :
    Calls Tryd.prog 19 #[.pointer (some ⟨r, 0, none⟩)] w (NewBs w (laidS s)) := by
  have ht1 := textS_len s.held (by omega)
  have ht2 := textS_len s.rest (by omega)
  have H1 := Hid_mk fun (W : World) => (show Calls Tryd.prog 21 #[.string (tx s.held)] W (NewBs W (textS s.held)) by
    rw [← tx_text]; exact ref.lay_text W (tx s.held) (by rw [tx_size]; omega))
  have H2 := Hid_mk fun (W : World) => (show Calls Tryd.prog 21 #[.string (tx s.rest)] W (NewBs W (textS s.rest)) by
    rw [← tx_text s.rest]; exact ref.lay_text W (tx s.rest) (by rw [tx_size]; omega))
  obtain ⟨vh, vr, hh⟩ := h
  have HH := Hid_mk hh
  have c1 := hh.c1
  have c2 := hh.c2
  have c3 := hh.c3
  have c4 := hh.c4
  obtain ⟨ah, ch, rfl, -⟩ := id hh.held
  obtain ⟨ar, cr, rfl, -⟩ := id hh.rest
  clear hh
  cases ho : s.over <;> cases hwt : s.waits
  all_goals
    rw [ho] at c2
    rw [hwt] at c3
    go_enter Tryd.func19, Tryd.ntmps19
    go_wp2_with fail
    have hfl := flag_eq s ho hwt
    have hfu : (((flagN s).toUInt8).toNat : Int) = (flagN s : Int) := by rw [seal.u8_toNat]; have := flagN_le s; omega
    rw [hfl] at hfu
    simp only [reduceCtorEq, if_true, if_false, Int.zero_add, Int.add_zero] at hfu
    have HFu := Hid_mk hfu
    clear hfl hfu ho hwt c2 c3
    have HL1 := Hid_mk (show (textS s.held).length + ([(flagN s).toUInt8] : List UInt8).length ≤ 140737488355328 by simp; omega)
    have HL2 := Hid_mk (show (textS s.held ++ [(flagN s).toUInt8]).length + (textS s.rest).length ≤ 140737488355328 by simp; omega)
    clear ht1 ht2 hl
    have HS := Hid_mk fun V (hV : Kp No w V) => (⟨hV.cell' c1 id, hV.cell' c4 id, conv_tx (bs_no HH.out.held hV), conv_tx (bs_no HH.out.rest hV)⟩ : V.cell? ⟨r, 1, none⟩ = some (.slice ah s.held.length ch) ∧ V.cell? ⟨r, 4, none⟩ = some (.slice ar s.rest.length cr) ∧ (convert 30 9 (.slice ah s.held.length ch)).run Tryd.prog V = .ok (.string (tx s.held)) V ∧ (convert 30 9 (.slice ar s.rest.length cr)).run Tryd.prog V = .ok (.string (tx s.rest)) V)
    clear c1 c4
    go_region_held3 (fun V => V.cell? ⟨r, 1, none⟩ = some (.slice ah s.held.length ch) ∧ V.cell? ⟨r, 4, none⟩ = some (.slice ar s.rest.length cr) ∧ (convert 30 9 (.slice ah s.held.length ch)).run Tryd.prog V = .ok (.string (tx s.held)) V ∧ (convert 30 9 (.slice ar s.rest.length cr)).run Tryd.prog V = .ok (.string (tx s.rest)) V)
     (with_reducible refine HS.out _ ?_; with_reducible first | exact HK4.out | exact HK3.out | exact HK2.out | exact HK1.out | exact Kp.alloc HK1.out _ | exact Kp.drew (Kp.refl No w) | exact Kp.alloc (Kp.drew (Kp.refl No w)) _ | exact Kp.drew (Kp.alloc (Kp.refl No w) _))
     (first
      | (refine lst.step_append_bs _ (by rfl) _ _ (by rfl) w.heap.size v1 (textS s.held) (by rfl) (owns_kept HO1.out ((Kp.refl No W1).alloc _) (fun _ _ => id)) _ [(flagN s).toUInt8] (by rfl) (bs_lit1 W1 _ _ HFu.out) HL1.out (by have := HK1.out.size; first | (simp; done) | (simp; omega) | omega) ?_
         intro v2 W2 happ
         have HO2 := Hid_mk happ.1
         have HK2 : Hid (Kp No w W2) := Hid_mk ((HK1.out.alloc _).grown happ.2.1 fun k hk e => by have := (HO1.out.lt k e).1; omega)
         clear happ)
      | (refine lst.step_append_bs _ (by rfl) _ _ (by rfl) w.heap.size v1 (textS s.held) (by rfl) HO1.out _ [(flagN s).toUInt8] (by rfl) HF1.out HL1.out (by have := HK1.out.size; first | (simp; done) | (simp; omega) | omega) ?_
         intro v2 W2 happ
         have HO2 := Hid_mk happ.1
         have HK2 : Hid (Kp No w W2) := Hid_mk (HK1.out.grown happ.2.1 fun k hk e => by have := (HO1.out.lt k e).1; omega)
         clear happ)
      | (refine lst.step_append_bs _ (by rfl) _ _ (by rfl) w.heap.size v2 (textS s.held ++ [(flagN s).toUInt8]) (by rfl) HO23.out _ (textS s.rest) (by rfl) (owns_bs HO3.out) HL2.out HK3.out.size ?_
         intro v4 W4 happ
         have HO4 := Hid_mk happ.1
         have HK4 : Hid (Kp No w W4) := Hid_mk (HK3.out.grown happ.2.1 fun k hk e => by have := (HO23.out.lt k e).1; omega)
         clear happ)
      | (go_at_call 21
         first
          | (with_reducible refine (H1.out w.drew).mono ?_
             rintro e W1 ⟨v1, rfl, ho1, hk1⟩
             have HO1 : Hid (W1.ownsRow w.heap.size 5 1 v1 (textS s.held).length ((textS s.held).map B)) := Hid_mk ho1
             have HK1 : Hid (Kp No w W1) := Hid_mk ((Kp.refl No w).drew.trans' hk1)
             clear ho1 hk1)
          | (with_reducible refine (H1.out (w.drew.alloc _)).mono ?_
             rintro e W1 ⟨v1, rfl, ho1, hk1⟩
             have HO1 : Hid (W1.ownsRow w.heap.size 5 1 v1 (textS s.held).length ((textS s.held).map B)) := Hid_mk (owns_base ho1 (by simp))
             have HK1 : Hid (Kp No w W1) := Hid_mk (((Kp.refl No w).drew.alloc _).trans' hk1)
             have HF1 := Hid_mk (bs_no (bs_lit1 w.drew _ _ HFu.out) hk1)
             clear ho1 hk1)
          | (with_reducible refine (H1.out ((w.alloc _).drew)).mono ?_
             rintro e W1 ⟨v1, rfl, ho1, hk1⟩
             have HO1 : Hid (W1.ownsRow w.heap.size 5 1 v1 (textS s.held).length ((textS s.held).map B)) := Hid_mk (owns_base ho1 (by simp))
             have HK1 : Hid (Kp No w W1) := Hid_mk (((Kp.refl No w).alloc _).drew.trans' hk1)
             have HF1 := Hid_mk (bs_no (bs_lit1 w _ _ HFu.out) ((Kp.refl No _).drew.trans' hk1))
             clear ho1 hk1)
          | (with_reducible refine (H2.out W2).mono ?_
             rintro e W3 ⟨v3, rfl, ho3, hk3⟩
             have HO3 := Hid_mk (owns_base ho3 HK2.out.size)
             have HK3 : Hid (Kp No w W3) := Hid_mk (HK2.out.trans' hk3)
             have HO23 := Hid_mk (owns_kept HO2.out hk3 fun _ _ => id)
             clear ho3 hk3)))
    all_goals
      go_wp2
      go_ret
      exact ⟨_, rfl, HO4.out, HK4.out⟩

end Go.Proofs.YtpfpnlhihnfahaaDoor.spl
