/- tailracehand.Letters: a text of few letters, of raw bytes. A remainder; a byte that is turned. tailracehand.Pick; a byte of a slice turned. The law FormWidths: its walk. What the rows' listed variables give the walks of chapters 11 and 12. -/
import Derived.Test.YtgejeocojmpdjabGreatDoorPfTellXM
import Derived.Laws.DeepStrings4
import Derived.BigQuiet
import Derived.Deep.Cut
import Derived.Deep.QuietTactic
import Derived.Test.YtgejeocojmpdjabGreatDoorHexM
import Derived.Deep.RegionWith
import Derived.StillTailTactics
import Derived.RegionCalls
import Derived.Test.YtgejeocojmpdjabGreatDoorPfFormatM
import Derived.Test.YtgejeocojmpdjabGreatDoorRows
import Derived.ProofKit
import Derived.OpenShut
import Derived.ChangeSame
import Derived.LaidMore
import Derived.LaidSub
import Derived.Stop.Joined

namespace Go.Proofs.YtgejeocojmpdjabGreatDoor.ere
open Go.RowKit Go.Proofs.YtgejeocojmpdjabGreatDoor.sum Go.Proofs.YtgejeocojmpdjabGreatDoor.kept Go.Proofs.YtgejeocojmpdjabGreatDoor.str
set_option linter.unusedVariables false

def lets : List UInt8 := [97, 97, 98, 98, 99, 49, 10, 65]
set_option maxRecDepth 100000 in
theorem st_slice (l : List UInt8) (k : IntKind) (i j : Nat) (h1 : i ≤ j) (h2 : j ≤ l.length) (W : World) : (Instr.sliceAt 9 (.string (st l)) (some (.int k (i : Int))) (some (.int k (j : Int))) none).run Tryz.prog W = .ok (.string (st ((l.drop i).take (j - i)))) W := by
  have hu : Tryz.prog.underlying 9 = some .string := Tryz.underlying9
  rw [run_sliceAt_string W _ _ _ _ _ hu, run_slice_string_if (P := Tryz.prog) W 9 (st l) k k (i : Int) (j : Int) hu]
  rw [if_pos ⟨by omega, by rw [st_size]; omega⟩, if_pos ⟨by omega, by omega⟩]
  congr 2
  apply ByteArray.ext
  simp only [Int.toNat_natCast]
  rw [ByteArray.data_extract]
  apply Array.ext'
  simp [st, List.take_drop, Nat.min_eq_left h2]
theorem let_piece (r : Nat) (h : r < 8) (W : World) : (Instr.sliceAt 9 (.string ⟨#[97, 97, 98, 98, 99, 49, 10, 65]⟩) (some (.int .u8 (r : Int))) (some (.int .u8 ((r : Int) + 1))) none).run Tryz.prog W = .ok (.string ⟨#[lets.getD r 0]⟩) W := by
  have h1 := st_slice lets .u8 r (r + 1) (Nat.le_succ r) (by show r + 1 ≤ 8; omega) W
  rcases (by omega : r = 0 ∨ r = 1 ∨ r = 2 ∨ r = 3 ∨ r = 4 ∨ r = 5 ∨ r = 6 ∨ r = 7) with rfl | rfl | rfl | rfl | rfl | rfl | rfl | rfl <;> exact h1
def LtPost (w : World) (m : Nat) (e : Ending) (w' : World) : Prop := ∃ l : List UInt8, l.length ≤ m ∧ e = .returned (.string (st l)) ∧ Kp No w w'

set_option maxRecDepth 100000 in
set_option maxHeartbeats 8000000 in
theorem letters_any (w : World) (bv : Value) (bb : List UInt8) (hb : Bs w bv bb) (hbl : bb.length ≤ 281474976710656) (m : Nat) (hm : m ≤ 1000) : Calls Tryz.prog 20 #[bv, .int .i64 (m : Int)] w (LtPost w m) := by
  obtain ⟨ba, cap, rfl, hb1, hb2, hb3⟩ := hb
  have HB3 := Hid_mk hb3
  have HBl := Hid_mk hbl
  have HM := Hid_mk hm
  clear hb3 hbl hm
  go_enter Tryz.func20, Tryz.ntmps20
  go_wp2
  go_loopw [5, 6] (fun s i wr => ∃ (k : Nat) (l : List UInt8), k ≤ m ∧ k ≤ bb.length ∧ i = .int .i64 (k : Int) ∧ s = .string ⟨l.toArray⟩ ∧ l.length = k ∧ Kp No w wr) (fun _ i _ => m - (intOf i).toNat)
  case atStart => exact ⟨0, [], Nat.zero_le _, Nat.zero_le _, rfl, rfl, rfl, Kp.refl No _⟩
  case round =>
    obtain ⟨k, l, hkm, hkb, rfl, rfl, hl, hkp⟩ := hrel
    have HKp := Hid_mk hkp
    have HKm := Hid_mk hkm
    have HKb := Hid_mk hkb
    have HL := Hid_mk hl
    have hk0 : (0 : Int) ≤ (k : Int) := Int.natCast_nonneg _
    have hk1000 : (k : Int) ≤ 1000 := by have h8 := HKm.out; have h9 := HM.out; omega
    by_cases hlt : k < bb.length
    · have hki : (k : Int) < (bb.length : Int) := by omega
      by_cases hlm : k < m
      · have hmi : (k : Int) < (m : Int) := by omega
        obtain ⟨b, o, hab, hcell⟩ := HB3.out (by intro e; rw [e] at hlt; simp at hlt)
        have hc := hkp.cell' (hcell k hlt) id
        obtain ⟨y, hy⟩ : ∃ y, (bb.getD k 0).toNat = y := ⟨_, rfl⟩
        have hy256 : y < 256 := by rw [← hy]; exact UInt8.toNat_lt _
        have hB : B (bb.getD k 0) = .int .u8 (y : Int) := by rw [← hy]; rfl
        rw [hB] at hc
        subst hab
        have hy0 : (0 : Int) ≤ (y : Int) := Int.natCast_nonneg _
        have hr1 : (y : Int) % 8 = ((y % 8 : Nat) : Int) := by omega
        have hr2 : (y : Int).tmod 8 = ((y % 8 : Nat) : Int) := by rw [Int.tmod_eq_emod_of_nonneg hy0]; omega
        have hr8 : y % 8 < 8 := Nat.mod_lt _ (by decide)
        obtain ⟨r, hr⟩ : ∃ r, y % 8 = r := ⟨_, rfl⟩
        rw [hr] at hr1 hr2 hr8
        have hw1 : IntKind.u8.wrap ((r : Int) + 1) = (r : Int) + 1 := by simp [IntKind.wrap, IntKind.bits, IntKind.signed]; omega
        obtain ⟨lc, hlc⟩ : ∃ lc, lets.getD r 0 = lc := ⟨_, rfl⟩
        have hpc : ∀ W, (Instr.sliceAt 9 (.string ⟨#[97, 97, 98, 98, 99, 49, 10, 65]⟩) (some (.int .u8 (r : Int))) (some (.int .u8 ((r : Int) + 1))) none).run Tryz.prog W = .ok (.string ⟨#[lc]⟩) W := fun W => by have h := let_piece r hr8 W; rw [hlc] at h; exact h
        have hadd := fun W => run_add_str l [lc] (by have := HKm.out; have := HL.out; have := HM.out; simp; omega) W
        have HLt := Hid_mk hlt
        have HLm := Hid_mk hlm
        clear hkm hkb hl hlt hlm hcell hy hB hy256 hr hr8 hkp hlc
        go_upto_region 5 with fail
        go_quiet (fail)
        go_wp2
        go_roundw
        case rel => exact ⟨k + 1, l ++ [lc], HLm.out, HLt.out, by go_num, rfl, by simp [HL.out], HKp.out.drewN _⟩
        case measure => have := HLm.out; simp [intOf]; omega
      · have hmi : ¬ (k : Int) < (m : Int) := by omega
        clear hkm hkb hl hlt hlm hkp
        go_wp2
        go_ret
        exact ⟨l, by have := HL.out; have := HKm.out; omega, rfl, HKp.out⟩
    · have hki : ¬ (k : Int) < (bb.length : Int) := by omega
      clear hkm hkb hl hlt hkp
      go_wp2
      go_ret
      exact ⟨l, by have := HL.out; have := HKm.out; omega, rfl, HKp.out⟩

end Go.Proofs.YtgejeocojmpdjabGreatDoor.ere

namespace Go.Proofs.YtgejeocojmpdjabGreatDoor.turned
open Go.RowKit Go.Proofs.YtgejeocojmpdjabGreatDoor.sum Go.Proofs.YtgejeocojmpdjabGreatDoor.kept Go.Proofs.YtgejeocojmpdjabGreatDoor.app Go.Proofs.YtgejeocojmpdjabGreatDoor.writer Go.Proofs.YtgejeocojmpdjabGreatDoor.clone Go.Proofs.YtgejeocojmpdjabGreatDoor.known Go.Proofs.YtgejeocojmpdjabGreatDoor.unseal
set_option linter.unusedVariables false

theorem tmod_pos (n m : Int) (hm : 0 < m) : -m < n.tmod m ∧ n.tmod m < m ∧ (0 ≤ n.tmod m → n.tmod m = n % m) ∧ (n.tmod m < 0 → n.tmod m + m = n % m) := by
  have h1 := Int.tmod_lt_of_pos n hm
  have h2 := Int.tmod_lt_of_pos (-n) hm
  rw [Int.neg_tmod] at h2
  have h3 := Int.tmod_add_mul_tdiv n m
  refine ⟨by omega, h1, ?_, ?_⟩
  · intro h
    have e : n % m = (n.tmod m + m * n.tdiv m) % m := by rw [h3]
    rw [e, Int.add_mul_emod_self_left, Int.emod_eq_of_lt h h1]
  · intro h
    have e : n % m = (n.tmod m + m + m * (n.tdiv m - 1)) % m := by rw [Int.mul_sub]; congr 1; omega
    rw [e, Int.add_mul_emod_self_left, Int.emod_eq_of_lt (by omega) (by omega)]

theorem bs_set {w : World} {b o len cap : Nat} {bs : List UInt8} (h : Bs w (.slice (some ⟨b, o, none⟩) len cap) bs) (k : Nat) (hk : k < len) (y : UInt8) : Bs (w.setCell ⟨b, o + k, none⟩ (B y)) (.slice (some ⟨b, o, none⟩) len cap) (bs.set k y) := by
  obtain ⟨a, c, e, h1, h2, h3⟩ := h
  simp only [Value.slice.injEq] at e
  obtain ⟨rfl, rfl, rfl⟩ := e
  refine ⟨_, cap, by rw [List.length_set], by rw [List.length_set]; exact h1, h2, fun _ => ⟨b, o, rfl, fun i hi => ?_⟩⟩
  rw [List.length_set] at hi
  obtain ⟨b', o', e, hc⟩ := h3 (by intro e; subst e; simp at hk)
  cases e
  by_cases hik : i = k
  · subst hik
    rw [World.cell?_setCell_same w _ _ (hc i hi)]
    simp [List.getD, hi]
  · rw [World.cell?_setCell_other w _ _ _ (by simp <;> omega), hc i hi]
    simp [List.getD, List.getElem?_set, Ne.symm hik]

end Go.Proofs.YtgejeocojmpdjabGreatDoor.turned

namespace Go.Proofs.YtgejeocojmpdjabGreatDoor.turned
open Go.RowKit Go.Proofs.YtgejeocojmpdjabGreatDoor.sum Go.Proofs.YtgejeocojmpdjabGreatDoor.kept Go.Proofs.YtgejeocojmpdjabGreatDoor.app Go.Proofs.YtgejeocojmpdjabGreatDoor.writer Go.Proofs.YtgejeocojmpdjabGreatDoor.clone Go.Proofs.YtgejeocojmpdjabGreatDoor.known Go.Proofs.YtgejeocojmpdjabGreatDoor.unseal
set_option linter.unusedVariables false

set_option maxRecDepth 100000 in
set_option maxHeartbeats 1000000 in
theorem pick_any (n m : Int) (hm : 0 < m) (hm2 : m ≤ 1000000000000000) (w : World) :
    Calls Tryz.prog 18 #[.int .i64 n, .int .i64 m] w fun e w' => e = .returned (.int .i64 (n % m)) ∧ w = w' := by
  obtain ⟨h1, h2, h3, h4⟩ := tmod_pos n m hm
  obtain ⟨t, ht⟩ : ∃ t, n.tmod m = t := ⟨_, rfl⟩
  rw [ht] at h1 h2 h3 h4
  have H3 := Hid_mk h3
  have H4 := Hid_mk h4
  clear h3 h4
  have hne : ¬ m = 0 := by omega
  have hne1 : ¬ m = -1 := by omega
  by_cases hneg : t < 0
  · go_enter Tryz.func18, Tryz.ntmps18
    go_wp2
    go_ret
    rw [H4.out hneg]
    exact ⟨rfl, rfl⟩
  · go_enter Tryz.func18, Tryz.ntmps18
    go_wp2
    go_ret
    rw [H3.out (by omega)]
    exact ⟨rfl, rfl⟩

end Go.Proofs.YtgejeocojmpdjabGreatDoor.turned

namespace Go.Proofs.YtgejeocojmpdjabGreatDoor.pf
open Go.RowKit Go.Lib Go.Proofs.YtgejeocojmpdjabGreatDoor.turned Go.Proofs.YtgejeocojmpdjabGreatDoor.ere Go.Proofs.YtgejeocojmpdjabGreatDoor.sum Go.Proofs.YtgejeocojmpdjabGreatDoor.kept Go.Proofs.YtgejeocojmpdjabGreatDoor.app Go.Proofs.YtgejeocojmpdjabGreatDoor.writer Go.Proofs.YtgejeocojmpdjabGreatDoor.known Go.Proofs.YtgejeocojmpdjabGreatDoor.str Go.Proofs.YtgejeocojmpdjabGreatDoor.fmtf Go.Proofs.YtgejeocojmpdjabGreatDoor.fl
set_option linter.unusedVariables false

theorem one_arg (W : World) (x : Ar) (t : Nat) (g : Nat) (hg : W.heap.size = g) : ArgsAt (W.alloc (.cells #[.float .f64 x.n, .string (st x.s), .bool x.num] t)) (.slice (some ⟨g, 0, none⟩) 1 1) [x] := by
  subst hg
  refine ⟨_, 1, rfl, Nat.le_refl 1, by decide, fun k hk => ⟨_, 0, rfl, ?_⟩⟩
  have hk : k < 1 := hk
  have : k = 0 := by omega
  subst this
  exact ⟨by rw [World.cell?_alloc_mark]; rfl, by rw [World.cell?_alloc_mark]; rfl, by rw [World.cell?_alloc_mark]; rfl⟩

set_option maxRecDepth 100000 in
set_option maxHeartbeats 16000000 in
theorem formWidths_any (w : World) (h : Ld w) (wd x : Int) (bv : Value) (bb : List UInt8) (hb : Bs w bv bb) (hbl : bb.length ≤ 281474976710656) :
    Calls Tryz.prog 8 #[.int .i64 wd, .int .i64 x, bv] w fun e w' => e = .returned (.bool true) ∧ Kp No w w' := by
  have HN := Hid_mk fun W b => n_any W b
  have HL := Hid_mk h
  have HP := Hid_mk (pick_any wd 60 (by decide) (by decide) w)
  have h40 := letters_any w bv bb hb hbl 40 (by decide)
  rw [show ((40 : Nat) : Int) = 40 from rfl] at h40
  have HLt := Hid_mk h40
  clear h40
  obtain ⟨Y, hY⟩ : ∃ Y : Nat, wd % 60 = (Y : Int) := ⟨(wd % 60).toNat, by omega⟩
  have hY60 : Y < 60 := by omega
  rw [hY] at HP
  obtain ⟨Z, hZ⟩ : ∃ Z, x.tmod 1000000 = Z := ⟨_, rfl⟩
  have hZs : Small Z := by
    have h1 := Int.natAbs_tmod x 1000000
    rw [hZ] at h1
    unfold Small
    have h2 : x.natAbs % (1000000 : Int).natAbs < 1000000 := Nat.mod_lt _ (by decide)
    have p53 : (2 : Nat) ^ 53 = 9007199254740992 := by decide
    omega
  have hfo1 : floatOfInt .f64 (Y : Int) = fl (Y : Int) := rfl
  have hfo2 : floatOfInt .f64 Z = fl Z := rfl
  have HY := Hid_mk hY60
  have HZ := Hid_mk hZs
  clear h hb hbl hY hY60 hZs
  go_enter Tryz.func8, Tryz.ntmps8
  go_wp2_with fail
  with_reducible refine HP.out.mono ?_
  rintro e w0 ⟨rfl, rfl⟩
  clear HP
  go_wp2_with fail
  with_reducible refine HLt.out.mono ?_
  rintro e w1 ⟨t, ht, rfl, hk1⟩
  have HK := Hid_mk hk1
  have HT := Hid_mk ht
  obtain ⟨TT, hTT⟩ : ∃ TT, st t = TT := ⟨_, rfl⟩
  rw [hTT]
  have HTT := Hid_mk hTT
  clear hk1 HLt ht hTT
  have hdg := dgN_any w1 (HL.out.no HK.out) Y (by have := HY.out; omega)
  rw [wd_dg ⟨Y, HY.out⟩] at hdg
  have hwl := wdL_len ⟨Y, HY.out⟩
  simp only at hwl hdg
  obtain ⟨KK, hKK⟩ : ∃ KK, st (wdL Y) = KK := ⟨_, rfl⟩
  have hks : KK.size ≤ 2 := by rw [← hKK, st_size]; exact hwl
  have HKK := Hid_mk hKK
  have hdg2 : Calls Tryz.prog 17 #[.float .f64 (fl (Y : Int))] w1 fun e w' => e = .returned (.string KK) ∧ Kp No w1 w' := by rw [← hKK]; exact hdg
  have HDg := Hid_mk hdg2
  clear hdg hdg2 hwl hKK
  have hc1 : ¬ (9223372036854775807 < 1 + KK.size) := by omega
  have hc2 : ¬ (9223372036854775807 < 1 + KK.size + 1) := by omega
  have hc3 : ¬ (9223372036854775807 < 2 + KK.size) := by omega
  have hc4 : ¬ (9223372036854775807 < 2 + KK.size + 1) := by omega
  clear hks
  obtain ⟨AA, hAA⟩ : ∃ AA, st (rtL Y (dgZ Z)) = AA := ⟨_, rfl⟩
  obtain ⟨BB, hBB⟩ : ∃ BB, st (lfL Y (dgZ Z)) = BB := ⟨_, rfl⟩
  obtain ⟨CC, hCC⟩ : ∃ CC, st (rtL Y t) = CC := ⟨_, rfl⟩
  obtain ⟨DD, hDD⟩ : ∃ DD, st (dgZ Z) = DD := ⟨_, rfl⟩
  have HA := Hid_mk hAA
  have HB := Hid_mk hBB
  have HC := Hid_mk hCC
  have HD := Hid_mk hDD
  clear hAA hBB hCC hDD
  go_wp2_with fail
  with_reducible refine HDg.out.mono ?_
  rintro e w2 ⟨rfl, hk1⟩
  have HK := Hid_mk (HK.out.trans' hk1)
  clear hk1 HDg
  go_wp2_with fail
  with_reducible refine (HN.out _ _).mono ?_
  rintro e w3 ⟨rfl, hk1⟩
  have HK := Hid_mk (HK.out.trans' hk1)
  clear hk1
  go_wp2_with fail
  obtain ⟨W3, hW3, hk3, hz3⟩ := named_alloc w3 (.cells #[.float .f64 (fl Z), .string ⟨#[]⟩, .bool true] 27)
  have hA := one_arg w3 (arZ Z) 27 _ rfl
  rw [show w3.alloc (.cells #[.float .f64 (arZ Z).n, .string (st (arZ Z).s), .bool (arZ Z).num] 27) = W3 from hW3] at hA
  rw [hW3]
  have hF := fmt_d W3 (HL.out.no (HK.out.trans' hk3)) Z HZ.out Y HY.out _ hA
  rw [HKK.out, HA.out] at hF
  have HF := Hid_mk hF
  have HK := Hid_mk (HK.out.trans' hk3)
  clear hA hF hW3 hk3 hz3
  with_reducible refine HF.out.mono ?_
  rintro e v3 ⟨rfl, hk1⟩
  have HK := Hid_mk (HK.out.trans' hk1)
  clear hk1 HF
  go_wp2_with fail
  with_reducible refine (HN.out _ _).mono ?_
  rintro e w4 ⟨rfl, hk1⟩
  have HK := Hid_mk (HK.out.trans' hk1)
  clear hk1
  go_wp2_with fail
  obtain ⟨W4, hW4, hk4, hz4⟩ := named_alloc w4 (.cells #[.float .f64 (fl Z), .string ⟨#[]⟩, .bool true] 27)
  have hA := one_arg w4 (arZ Z) 27 _ rfl
  rw [show w4.alloc (.cells #[.float .f64 (arZ Z).n, .string (st (arZ Z).s), .bool (arZ Z).num] 27) = W4 from hW4] at hA
  rw [hW4]
  have hF := fmt_l W4 (HL.out.no (HK.out.trans' hk4)) Z HZ.out Y HY.out _ hA
  rw [HKK.out, HB.out] at hF
  have HF := Hid_mk hF
  have HK := Hid_mk (HK.out.trans' hk4)
  clear hA hF hW4 hk4 hz4
  with_reducible refine HF.out.mono ?_
  rintro e v4 ⟨rfl, hk1⟩
  have HK := Hid_mk (HK.out.trans' hk1)
  clear hk1 HF
  go_wp2_with fail
  obtain ⟨W6, hW6, hk5, hz5⟩ := named_alloc v4 (.cells #[.float .f64 0, .string TT, .bool false] 27)
  have hA := one_arg v4 (arT t) 27 _ rfl
  rw [show v4.alloc (.cells #[.float .f64 (arT t).n, .string (st (arT t).s), .bool (arT t).num] 27) = W6 from by rw [← hW6, ← HTT.out]; rfl] at hA
  rw [hW6]
  have hF := fmt_s W6 (HL.out.no (HK.out.trans' hk5)) t HT.out Y HY.out _ hA
  rw [HKK.out, HC.out] at hF
  have HF := Hid_mk hF
  have HK := Hid_mk (HK.out.trans' hk5)
  clear hA hF hW6 hk5 hz5
  with_reducible refine HF.out.mono ?_
  rintro e v6 ⟨rfl, hk1⟩
  have HK := Hid_mk (HK.out.trans' hk1)
  clear hk1 HF
  go_wp2_with fail
  have hdz := dgZ_any v6 (HL.out.no HK.out) Z HZ.out
  have hdz2 : Calls Tryz.prog 17 #[.float .f64 (fl Z)] v6 fun e w' => e = .returned (.string DD) ∧ Kp No v6 w' := by rw [← HD.out]; exact hdz
  with_reducible refine hdz2.mono ?_
  rintro e v7 ⟨rfl, hk1⟩
  have HK := Hid_mk (HK.out.trans' hk1)
  clear hk1 hdz hdz2
  have HKn := Hid_mk (known12_any v7 (HL.out.no HK.out))
  have hdl := (bdZ_len Z HZ.out).2.1
  have htl := HT.out
  have hyl := HY.out
  obtain ⟨d, hd⟩ : ∃ d, (dgZ Z).length = d := ⟨_, rfl⟩
  obtain ⟨m, hm⟩ : ∃ m, t.length = m := ⟨_, rfl⟩
  have hsD : DD.size = d := by rw [← HD.out, st_size]; exact hd
  have hsT : TT.size = m := by rw [← HTT.out, st_size]; exact hm
  have hsA : AA.size = Y - d + d := by rw [← HA.out, st_size]; unfold rtL; simp [hd]
  have hsB : BB.size = Y - d + d := by rw [← HB.out, st_size]; unfold lfL; simp [hd]; omega
  have hsC : CC.size = Y - m + m := by rw [← HC.out, st_size]; unfold rtL; simp [hm]
  have hx1 : AA.extract (Y - d) (Y - d + d) = DD := by rw [← HA.out, ← HD.out, st_piece]; unfold rtL; rw [hd]; congr 1; rw [List.drop_left' (by simp)]; exact List.take_of_length_le (by omega)
  have hx2 : BB.extract 0 d = DD := by rw [← HB.out, ← HD.out, st_piece]; unfold lfL; congr 1; rw [List.drop_zero, Nat.sub_zero, List.take_left' hd]
  have hx3 : CC.extract (Y - m) (Y - m + m) = TT := by rw [← HC.out, ← HTT.out, st_piece]; unfold rtL; rw [hm]; congr 1; rw [List.drop_left' (by simp)]; exact List.take_of_length_le (by omega)
  obtain ⟨g, hg⟩ : ∃ g, Y - d = g := ⟨_, rfl⟩
  obtain ⟨k, hk⟩ : ∃ k, Y - m = k := ⟨_, rfl⟩
  obtain ⟨a, ha⟩ : ∃ a, g + d = a := ⟨_, rfl⟩
  obtain ⟨c, hc⟩ : ∃ c, k + m = c := ⟨_, rfl⟩
  rw [hg, ha] at hsA hsB hx1
  rw [hk, hc] at hsC hx3
  have hm1 : max (Y : Int) (d : Int) = (a : Int) := by omega
  have hm2 : max (Y : Int) (m : Int) = (c : Int) := by omega
  have hs1 : (a : Int) - (d : Int) = (g : Int) := by omega
  have hs2 : (c : Int) - (m : Int) = (k : Int) := by omega
  have hb1 : g ≤ a ∧ d ≤ a ∧ a ≤ 100 := by omega
  have hb2 : k ≤ c ∧ c ≤ 100 := by omega
  obtain ⟨hb11, hb12, hb13⟩ := hb1
  obtain ⟨hb21, hb22⟩ := hb2
  clear hd hm hg hk ha hc hdl htl hyl hc1 hc2 hc3 hc4
  go_wp2_with fail
  with_reducible refine HKn.out.mono ?_
  rintro e v8 ⟨rfl, hk1⟩
  have HK := Hid_mk (HK.out.trans' hk1)
  clear hk1 HKn
  go_wp2
  go_ret
  exact ⟨rfl, HK.out⟩

end Go.Proofs.YtgejeocojmpdjabGreatDoor.pf

namespace Go.Proofs.YtgejeocojmpdjabGreatDoor.pf
open Go.ChangeShapes Go.WideShapes Go.ChangeAt Go.RowKit Go.Lib Go.Proofs.YtgejeocojmpdjabGreatDoor.sum Go.Proofs.YtgejeocojmpdjabGreatDoor.kept Go.Proofs.YtgejeocojmpdjabGreatDoor.fmtf
set_option linter.unusedVariables false

def dbZ : List Int := [0, 1, 56, 2, 57, 49, 28, 3, 61, 58, 42, 50, 38, 29, 17, 4, 62, 47, 59, 36, 45, 43, 51, 22, 53, 39, 33, 30, 24, 18, 12, 5, 63, 55, 48, 27, 60, 41, 37, 16, 46, 35, 44, 21, 52, 32, 23, 11, 54, 26, 40, 15, 34, 20, 31, 10, 25, 14, 19, 9, 13, 8, 7, 6]
def p10Z : List Int := [1, 10, 100, 1000, 10000, 100000, 1000000, 10000000, 100000000, 1000000000, 10000000000, 100000000000, 1000000000000, 10000000000000, 100000000000000, 1000000000000000, 10000000000000000, 100000000000000000, 1000000000000000000, 10000000000000000000]
theorem tab_cell {W : World} (name : String) (dat : DataW Unit) (g : Nat) (T E : TypeId) (k : IntKind) (N : Nat) (zs : List Int) (hdat : dat = .agg (zs.map fun n => .lit (.int k n))) (hN : zs.length = N) (hg0 : Tryz.prog.globalNamed name = some g) (ht0 : (Tryz.prog.globals[g]?).map (·.type) = some T)
    (hT : Tryz.prog.underlying T = some (.array N E)) (hE : Tryz.prog.underlying E = some (.int k)) (hc : Tryz.prog.cellsOf E = 1) (h : laidMet Tryz.prog [(name, dat)] W) (r : Nat) (hr : r < N) : W.cell? ⟨g, r, none⟩ = some (.int k (zs.getD r 0)) := by
  obtain ⟨ps, ⟨g1, t1, cs, fuel, p, q, hg, ht, hv, hd, _, _⟩, _, _⟩ := h
  obtain rfl := Option.some.inj (hg0.symm.trans hg)
  obtain rfl := Option.some.inj (ht0.symm.trans ht)
  rw [hdat] at hd
  obtain ⟨xs, m, _, ex, _, hl, hel⟩ := DataW.trod_array hT hd
  have hEl := hel r hr
  rw [hc, Nat.mul_one, List.getElem?_eq_getElem (by omega)] at hEl
  obtain ⟨z, e1, e2, _⟩ := DataW.trod_int hE hEl
  have e3 : (xs.map (·.1)) = zs.map fun n => .lit (.int k n) := (DataW.agg.inj (Prod.mk.inj ex).1).symm
  have e4 : (xs.map (·.1))[r]? = (zs.map fun n => (DataW.lit (.int k n) : DataW Unit))[r]? := by rw [e3]
  rw [List.getElem?_map, List.getElem?_map, List.getElem?_eq_getElem (by omega : r < xs.length), List.getElem?_eq_getElem (by omega : r < zs.length), e2] at e4
  have hz : z = zs.getD r 0 := by
    simp only [Option.map_some, Option.some.injEq, DataW.lit.injEq, Lit.int.injEq, true_and] at e4
    rw [e4, List.getD, List.getElem?_eq_getElem (by omega : r < zs.length)]; rfl
  rw [World.var?_cell hg hv r, ← hz]
  have : cs.toList[r]? = some (.int k z) := by
    have h0 : ((cs.toList.drop r).take 1)[0]? = some (.int k z) := by rw [e1]; rfl
    simpa using h0
  simpa using this
theorem pow_cell {W : World} (h : laidMet Tryz.prog [("internal/strconv.pow10Tab", Pinned.pow10Tab)] W) (hN : Pinned.pow10Rows.length = 696) (r : Nat) (hr : r < 696) :
    W.cell? ⟨7, r * 2, none⟩ = some (.int .u64 ((Pinned.pow10Rows.getD r (0, 0)).1 : Int)) ∧ W.cell? ⟨7, r * 2 + 1, none⟩ = some (.int .u64 ((Pinned.pow10Rows.getD r (0, 0)).2 : Int)) := by
  have hc2 : Tryz.prog.cellsOf 186 = 2 := by kernel_rfl
  have hc : Tryz.prog.cellsOf 90 = 1 := by kernel_rfl
  obtain ⟨ps, ⟨g1, t1, cs, fuel, p, q, hg, ht, hv, hd, _, _⟩, _, _⟩ := h
  obtain rfl := Option.some.inj ((show Tryz.prog.globalNamed "internal/strconv.pow10Tab" = some 7 by kernel_rfl).symm.trans hg)
  obtain rfl := Option.some.inj ((show (Tryz.prog.globals[7]?).map (·.type) = some 187 by kernel_rfl).symm.trans ht)
  unfold Pinned.pow10Tab at hd
  obtain ⟨xs, m, _, ex, _, hl, hel⟩ := DataW.trod_array Tryz.underlying187 hd
  have hEl := hel r hr
  rw [hc2, List.getElem?_eq_getElem (by omega)] at hEl
  obtain ⟨y0, y1, m2, ey, hcl, hf0, hf1⟩ := trod_struct2 Tryz.underlying186 hEl
  have hr2 : r < Pinned.pow10Rows.length := by omega
  have e3 : (xs.map (·.1)) = Pinned.pow10Rows.map fun x => .agg [.lit (.int .u64 x.1), .lit (.int .u64 x.2)] := (DataW.agg.inj (Prod.mk.inj ex).1).symm
  have e4 : (xs.map (·.1))[r]? = (Pinned.pow10Rows.map fun x => (DataW.agg [.lit (.int .u64 x.1), .lit (.int .u64 x.2)] : DataW Unit))[r]? := by rw [e3]
  rw [List.getElem?_map, List.getElem?_map, List.getElem?_eq_getElem (by omega : r < xs.length), List.getElem?_eq_getElem hr2] at e4
  have e5 : (xs[r]'(by omega)).1 = .agg [.lit (.int .u64 (Pinned.pow10Rows[r].1 : Int)), .lit (.int .u64 (Pinned.pow10Rows[r].2 : Int))] := by simpa using e4
  rw [ey] at e5
  have e6 : [y0.1, y1.1] = [.lit (.int .u64 (Pinned.pow10Rows[r].1 : Int)), .lit (.int .u64 (Pinned.pow10Rows[r].2 : Int))] := DataW.agg.inj e5
  simp only [List.cons.injEq, and_true] at e6
  have hx : Pinned.pow10Rows.getD r (0, 0) = Pinned.pow10Rows[r] := by rw [List.getD, List.getElem?_eq_getElem hr2]; rfl
  rw [hx]
  obtain ⟨a, f1, f2, _⟩ := DataW.trod_int Tryz.underlying90 hf0
  obtain ⟨b, g1, g2, _⟩ := DataW.trod_int Tryz.underlying90 hf1
  have ha : a = (Pinned.pow10Rows[r].1 : Int) := by have := e6.1; rw [f2] at this; simpa using this
  have hb : b = (Pinned.pow10Rows[r].2 : Int) := by have := e6.2; rw [g2] at this; simpa using this
  rw [← ha, ← hb, World.var?_cell hg hv (r * 2), World.var?_cell hg hv (r * 2 + 1)]
  simp only [hc] at f1 g1
  have h0 := congrArg (fun l => l[0]?) f1
  have h1 := congrArg (fun l => l[0]?) g1
  simp at h0 h1
  exact ⟨by simpa using h0, by simpa using h1⟩
theorem flag_cell {W : World} (name : String) (g : Nat) (T : TypeId) (hg0 : Tryz.prog.globalNamed name = some g) (ht0 : (Tryz.prog.globals[g]?).map (·.type) = some T) (hT : Tryz.prog.underlying T = some .bool) (h : laidMet Tryz.prog [(name, .lit (.bool true))] W) : W.cell? ⟨g, 0, none⟩ = some (.bool true) := by
  obtain ⟨ps, ⟨g1, t1, cs, fuel, p, q, hg, ht, hv, hd, _, _⟩, _, _⟩ := h
  obtain rfl := Option.some.inj (hg0.symm.trans hg)
  obtain rfl := Option.some.inj (ht0.symm.trans ht)
  obtain ⟨b, e1, e2⟩ := DataW.trod_bool hT hd
  have hb : b = true := by
    have := (Prod.mk.inj e2).1
    simpa using this.symm
  rw [World.var?_cell hg hv 0]
  rw [hb] at e1
  have : cs.toList[0]? = some (.bool true) := by rw [e1]; rfl
  simpa using this
theorem pow_len : Pinned.pow10Rows.length = 696 := by kernel_rfl
theorem pow_bd : (Pinned.pow10Rows.all fun x => decide (x.1 < 18446744073709551616) && decide (x.2 < 18446744073709551616)) = true := by kernel_rfl
theorem p10_is : ((List.range 19).all fun n => decide (p10Z.getD n 0 = ((10 ^ n : Nat) : Int))) = true := by kernel_rfl
theorem ld_of {W : World} (h1 : laidMet Tryz.prog [("internal/strconv.optimize", .lit (.bool true))] W) (h2 : laidMet Tryz.prog [("internal/strconv.uint64pow10", .agg (p10Z.map fun n => .lit (.int .u64 n)))] W) (h3 : laidMet Tryz.prog [("internal/strconv.pow10Tab", Pinned.pow10Tab)] W) (h4 : laidMet Tryz.prog [("math/bits.deBruijn64tab", .agg (dbZ.map fun n => .lit (.int .u8 n)))] W) : Ld W := by
  have db := tab_cell "math/bits.deBruijn64tab" _ 10 199 5 .u8 64 dbZ rfl (by kernel_rfl) (by kernel_rfl) (by kernel_rfl) Tryz.underlying199 Tryz.underlying5 (by kernel_rfl) h4
  refine ⟨flag_cell _ _ 4 (by kernel_rfl) (by kernel_rfl) Tryz.underlying4 h1, fun n hn => ?_, fun p hp1 hp2 => ?_, db 15 (by omega), db 7 (by omega)⟩
  · have := tab_cell "internal/strconv.uint64pow10" _ 4 169 90 .u64 20 p10Z rfl (by kernel_rfl) (by kernel_rfl) (by kernel_rfl) Tryz.underlying169 Tryz.underlying90 (by kernel_rfl) h2 n (by omega)
    have e := of_decide_eq_true (List.all_eq_true.1 p10_is n (List.mem_range.2 (by omega)))
    rw [e] at this
    exact this
  · obtain ⟨r, hr⟩ : ∃ r : Nat, p + 348 = (r : Int) := ⟨(p + 348).toNat, by omega⟩
    have hr2 : r < 696 := by omega
    have hc := pow_cell h3 pow_len r hr2
    have hm : Pinned.pow10Rows.getD r (0, 0) ∈ Pinned.pow10Rows := by
      have hl : r < Pinned.pow10Rows.length := by rw [pow_len]; exact hr2
      rw [List.getD, List.getElem?_eq_getElem hl]
      exact List.getElem_mem hl
    have hb := List.all_eq_true.1 pow_bd _ hm
    simp only [Bool.and_eq_true, decide_eq_true_eq] at hb
    unfold Pw T10
    rw [hr, Int.toNat_natCast]
    exact ⟨hc, hb⟩

end Go.Proofs.YtgejeocojmpdjabGreatDoor.pf
